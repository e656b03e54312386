/- ClockEnds: each end with each. -/
import Derived.Test.YtdkdklaoljmpgaaH
import Derived.StillTailTactics
namespace Go.Proofs.Ytdkdklaoljmpgaa
open Go.ChangeShapes Go.WideShapes Go.ChangeAt Go.RowKit

/-- what lies below B lies as it lay, and the block b there holds n numbers -/
def Nums (B b n : Nat) (w : World) : Prop := b < B ∧ ∀ k, k < n → ∃ x : Int, w.cell? ⟨b, k, none⟩ = some (.int .i64 x)
theorem Nums.below {B b n : Nat} {w w' : World} (h : Nums B b n w) (hb : Below B w w') : Nums B b n w' :=
  ⟨h.1, fun k hk => by obtain ⟨x, hx⟩ := h.2 k hk; exact ⟨x, (hb.cell (p := ⟨b, k, none⟩) h.1).trans hx⟩⟩

def endsL : List Int := [-9223372036854775808, -1099511627777, -1099511627776, -2, -1, 0, 1, 2, 3, 7, 10, 1048575, 1048576, 1048577, 1099511627775, 1099511627776, 1099511627777, 9223372036854775807]

theorem nums_new (w : World) (l : List Int) : Nums (w.heap.size + 1) w.heap.size l.length (w.alloc (.cells (l.map (Value.int .i64)).toArray 3)) := by
  refine ⟨by omega, fun k hk => ⟨l[k], ?_⟩⟩
  rw [World.cell?_alloc_new]
  simp [hk]

/-- behind a call, at the head of a round -/
structure Keep (B : Nat) (w w1 wr : World) : Prop where
  low : Below w.heap.size w wr
  nums : Nums B w.heap.size 18 wr
  size : B ≤ wr.heap.size
  lt : w.heap.size < B

theorem Keep.step {B : Nat} {w w1 wr w' : World} (h : Keep B w w1 wr) (hb : Below wr.heap.size wr w') : Keep B w w1 w' :=
  ⟨h.low.trans (hb.mono h.low.size), h.nums.below (hb.mono h.size), Nat.le_trans h.size hb.size, h.lt⟩
theorem Keep.drew {B : Nat} {w w1 wr : World} (h : Keep B w w1 wr) : Keep B w w1 wr.drew := ⟨h.low.drew, h.nums.below (Below.refl _ _).drew, h.size, h.lt⟩

set_option maxHeartbeats 1000000 in
theorem ends_walk (w : World) : Calls Try.prog 4 #[] w fun e w' => e = .returned (.bool true) ∧ Below w.heap.size w w' := by
  have hn : Nums (w.heap.size + 1) w.heap.size 18 (w.alloc (.cells (endsL.map (Value.int .i64)).toArray 3)) := nums_new w endsL
  have hk : Keep (w.heap.size + 1) w w (w.alloc (.cells (endsL.map (Value.int .i64)).toArray 3)) := ⟨(Below.refl _ w).alloc (Nat.le_refl _) _, hn, by simp, by omega⟩
  have HK := Lib.hid hk
  clear hn hk
  go_enter Try.func4, Try.ntmps4
  go_wp2
  go_loopw [2] (fun i wr => ∃ k : Nat, k ≤ 18 ∧ i = .int .i64 k ∧ Keep (w.heap.size + 1) w w wr) (fun i _ => 18 - (intOf i).toNat)
  case atStart => exact ⟨0, by omega, rfl, HK.out⟩
  case round =>
    obtain ⟨i, hi, rfl, hk1⟩ := hrel
    obtain ⟨wo, rfl⟩ : ∃ wo : World, wo = wr := ⟨_, rfl⟩
    by_cases hi2 : i < 18
    · have hdi : decide ((i : Int) < 18) = true := by simp; omega
      go_wp2
      go_loopw [3] (fun c wr => ∃ k : Nat, k ≤ 18 ∧ c = .int .i64 k ∧ Keep (w.heap.size + 1) w w wr) (fun c _ => 18 - (intOf c).toNat)
      case atStart => exact ⟨0, by omega, rfl, hk1⟩
      case round =>
        obtain ⟨j, hj, rfl, hk2⟩ := hrel
        obtain ⟨wp, rfl⟩ : ∃ wo : World, wo = wr := ⟨_, rfl⟩
        by_cases hj2 : j < 18
        · have hdj : decide ((j : Int) < 18) = true := by simp; omega
          go_wp2
          go_loopw [4] (fun c wr => ∃ k : Nat, k ≤ 18 ∧ c = .int .i64 k ∧ Keep (w.heap.size + 1) w w wr) (fun c _ => 18 - (intOf c).toNat)
          case atStart => exact ⟨0, by omega, rfl, hk2⟩
          case round =>
            obtain ⟨n, hn, rfl, hk3⟩ := hrel
            clear hdi hdj
            have hi3 : (i : Int) < 18 := by omega
            have hj3 : (j : Int) < 18 := by omega
            by_cases hn2 : n < 18
            · obtain ⟨x, hx⟩ := hk3.nums.2 i hi2
              obtain ⟨y, hy⟩ := hk3.nums.2 j hj2
              obtain ⟨z, hz⟩ := hk3.nums.2 n hn2
              go_wp2
              go_still_tail 14, (by kernel_rfl)
              change wpList _ _ _ _ _ wr.drew
              have hk4 := hk3.drew
              generalize wr.drew = w2 at hk4 ⊢
              go_wp2_with (go_at_call 3; refine (does_any _ _ _ _ _).mono ?_; rintro e w3 ⟨rfl, hb3⟩)
              go_roundw
              case rel => exact ⟨n + 1, by omega, by go_num, hk4.step hb3⟩
              case measure => simp [intOf]; omega
            · go_wp2
              go_roundw
              case rel => exact ⟨j + 1, by omega, by go_num, hk3⟩
              case measure => simp [intOf]; omega
        · go_wp2
          go_roundw
          case rel => exact ⟨i + 1, by omega, by go_num, hk2⟩
          case measure => simp [intOf]; omega
    · go_wp2_with (go_at_call 25; refine (awake_any _).mono ?_; rintro e w3 ⟨rfl, hb3⟩)
      go_ret
      exact ⟨rfl, (hk1.step hb3).low⟩
end Go.Proofs.Ytdkdklaoljmpgaa
