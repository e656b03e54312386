/- Walks of the small functions of clock. -/
import Derived.Test.YtdkdklaoljmpgaaRows
import Derived.WalkKit
import Derived.ProofKit
import Derived.OpenShut
import Derived.Handy
import Derived.Outline
import Derived.Lib.Hide
namespace Go.Proofs.Ytdkdklaoljmpgaa
open Go.ChangeShapes Go.WideShapes Go.ChangeAt Go.RowKit

def wi (lo hi x : Int) : Bool := decide (lo ≤ x ∧ x ≤ hi)
def wi2 (lo hi x y : Int) : Bool := decide (lo ≤ x ∧ x ≤ hi ∧ lo ≤ y ∧ y ≤ hi)

theorem ret_bool {a b : Bool} (h : a = b) : Ending.returned (.bool a) = .returned (.bool b) := by rw [h]

theorem within1 (lo hi x : Int) (b : Nat) (w : World) (hc : w.cell? ⟨b, 0, none⟩ = some (.int .i64 x)) :
    Calls Try.prog 26 #[.int .i64 lo, .int .i64 hi, .slice (some ⟨b, 0, none⟩) 1 1] w fun e w' => e = .returned (.bool (wi lo hi x)) ∧ w' = w := by
  have h : x < lo ∨ (lo ≤ x ∧ hi < x) ∨ (lo ≤ x ∧ x ≤ hi) := by omega
  rcases h with h | h | h
  · go_enter Try.func26, Try.ntmps26
    go_wp2
    go_rounds 2
    go_ret
    exact ⟨ret_bool (by simp [wi]; omega), rfl⟩
  · obtain ⟨h1, h2⟩ := h
    go_enter Try.func26, Try.ntmps26
    go_wp2
    go_rounds 2
    go_ret
    exact ⟨ret_bool (by simp [wi]; omega), rfl⟩
  · obtain ⟨h1, h2⟩ := h
    go_enter Try.func26, Try.ntmps26
    go_wp2
    go_rounds 2
    go_ret
    exact ⟨ret_bool (by simp [wi]; omega), rfl⟩

theorem within2 (lo hi x y : Int) (b : Nat) (w : World) (hc : w.cell? ⟨b, 0, none⟩ = some (.int .i64 x)) (hd : w.cell? ⟨b, 1, none⟩ = some (.int .i64 y)) :
    Calls Try.prog 26 #[.int .i64 lo, .int .i64 hi, .slice (some ⟨b, 0, none⟩) 2 2] w fun e w' => e = .returned (.bool (wi2 lo hi x y)) ∧ w' = w := by
  have h : x < lo ∨ (lo ≤ x ∧ hi < x) ∨ (lo ≤ x ∧ x ≤ hi ∧ y < lo) ∨ (lo ≤ x ∧ x ≤ hi ∧ lo ≤ y ∧ hi < y) ∨ (lo ≤ x ∧ x ≤ hi ∧ lo ≤ y ∧ y ≤ hi) := by omega
  rcases h with h | ⟨h1, h2⟩ | ⟨h1, h2, h3⟩ | ⟨h1, h2, h3, h4⟩ | ⟨h1, h2, h3, h4⟩
  all_goals
    go_enter Try.func26, Try.ntmps26
    go_wp2
    go_rounds 3
    go_ret
    exact ⟨ret_bool (by simp [wi2]; omega), rfl⟩

def isT (t : Int) : Bool := wi 0 1099511627776 t
def isM (t : Int) : Bool := wi (-1) 1099511627776 t
def isW (t : Int) : Bool := wi 1 1048576 t

theorem is_any (t : Int) (w : World) :
    Calls Try.prog 16 #[.int .i64 t] w fun e w' => e = .returned (.bool (isT t)) ∧ Below w.heap.size w w' := by
  go_enter Try.func16, Try.ntmps16
  go_wp2_with (go_at_call 26; refine (within1 _ _ t _ _ (by go_cell)).mono ?_; rintro e w' ⟨rfl, rfl⟩)
  go_ret
  exact ⟨rfl, by go_grown⟩

theorem mark_any (t : Int) (w : World) :
    Calls Try.prog 18 #[.int .i64 t] w fun e w' => e = .returned (.bool (isM t)) ∧ Below w.heap.size w w' := by
  go_enter Try.func18, Try.ntmps18
  go_wp2_with (go_at_call 26; refine (within1 _ _ t _ _ (by go_cell)).mono ?_; rintro e w' ⟨rfl, rfl⟩)
  go_ret
  exact ⟨rfl, by go_grown⟩

theorem span_any (t : Int) (w : World) :
    Calls Try.prog 27 #[.int .i64 t] w fun e w' => e = .returned (.bool (isW t)) ∧ Below w.heap.size w w' := by
  go_enter Try.func27, Try.ntmps27
  go_wp2_with (go_at_call 26; refine (within1 _ _ t _ _ (by go_cell)).mono ?_; rintro e w' ⟨rfl, rfl⟩)
  go_ret
  exact ⟨rfl, by go_grown⟩

def isS (a b : Int) : Bool := wi2 (-1099511627776) 1099511627776 a b
def isMM (a b : Int) : Bool := wi2 (-1) 1099511627776 a b
theorem isS_iff {a b : Int} : isS a b = true ↔ -1099511627776 ≤ a ∧ a ≤ 1099511627776 ∧ -1099511627776 ≤ b ∧ b ≤ 1099511627776 := by simp [isS, wi2]
theorem isMM_iff {a b : Int} : isMM a b = true ↔ -1 ≤ a ∧ a ≤ 1099511627776 ∧ -1 ≤ b ∧ b ≤ 1099511627776 := by simp [isMM, wi2]
theorem isT_iff {t : Int} : isT t = true ↔ 0 ≤ t ∧ t ≤ 1099511627776 := by simp [isT, wi]
theorem isM_iff {t : Int} : isM t = true ↔ -1 ≤ t ∧ t ≤ 1099511627776 := by simp [isM, wi]
theorem isW_iff {t : Int} : isW t = true ↔ 1 ≤ t ∧ t ≤ 1048576 := by simp [isW, wi]
theorem isT_no {t : Int} : isT t = false ↔ t < 0 ∨ 1099511627776 < t := by rw [← Bool.not_eq_true, isT_iff]; omega
theorem isM_no {t : Int} : isM t = false ↔ t < -1 ∨ 1099511627776 < t := by rw [← Bool.not_eq_true, isM_iff]; omega
theorem isW_no {t : Int} : isW t = false ↔ t < 1 ∨ 1048576 < t := by rw [← Bool.not_eq_true, isW_iff]; omega

/-- how many closes there are at most at a watermark -/
def upN (w s : Int) : Int := max w 0 / s

theorem ret_int {k : IntKind} {a b : Int} (h : a = b) : Ending.returned (.int k a) = .returned (.int k b) := by rw [h]
theorem upN_pos {t s : Int} (h : 0 ≤ t) : upN t s = t / s := by unfold upN; rw [Int.max_eq_left h]
theorem upN_neg {t s : Int} (h : t < 0) : upN t s = 0 := by unfold upN; rw [Int.max_eq_right (by omega)]; simp
theorem upN_bd (t : Int) {s : Int} (h2 : t ≤ 1099511627776) (h3 : 1 ≤ s) : 0 ≤ upN t s ∧ upN t s ≤ 1099511627776 := by
  rcases Int.lt_or_le t 0 with h | h
  · rw [upN_neg h]; omega
  · rw [upN_pos h]
    exact ⟨Int.ediv_nonneg h (by omega), Int.le_trans (Int.ediv_le_self _ h) h2⟩
theorem upN_mul (t : Int) {s : Int} (h2 : t ≤ 1099511627776) (h3 : 1 ≤ s) : 0 ≤ upN t s * s ∧ upN t s * s ≤ 1099511627776 := by
  rcases Int.lt_or_le t 0 with h | h
  · rw [upN_neg h]; omega
  · rw [upN_pos h]
    have := Int.ediv_nonneg h (show 0 ≤ s by omega)
    exact ⟨Int.mul_nonneg this (by omega), Int.le_trans (Int.ediv_mul_le _ (by omega)) h2⟩
end Go.Proofs.Ytdkdklaoljmpgaa
