/- Walks of the small functions: two items held against each other, whether a heap was made, how many there are, the first one. -/
import Derived.Test.YtfcdgfjpmcapkaaGreatHB
import Derived.LaidEqlPtr
import Derived.RegionTactic
import Derived.LoopTactic
import Derived.StillTailTactics
namespace Go.Proofs.YtfcdgfjpmcapkaaGreat
open Go.ChangeShapes Go.WideShapes Go.ChangeAt Go.RowKit
set_option linter.unusedVariables false

theorem isNaN_any (a : Int) (w : World) : Calls Tryz.prog 100 #[.int .i64 a] w fun e w' => e = .returned (.bool false) ∧ w = w' := by
  go_enter Tryz.func100, Tryz.ntmps100
  go_wp2
  go_ret
  exact ⟨rfl, rfl⟩

def cmp1 (a b : Int) : Int := if a < b then -1 else if b < a then 1 else 0
theorem cmp1_any (a b : Int) (w : World) : Calls Tryz.prog 85 #[.int .i64 a, .int .i64 b] w fun e w' => e = .returned (.int .i64 (cmp1 a b)) ∧ w = w' := by
  by_cases h1 : a < b
  · have e : cmp1 a b = -1 := by simp [cmp1, h1]
    rw [e]
    go_enter Tryz.func85, Tryz.ntmps85
    go_wp2_with (go_at_call 100; refine (isNaN_any _ _).mono ?_; rintro e w' ⟨rfl, rfl⟩)
    go_ret
    exact ⟨rfl, rfl⟩
  · by_cases h2 : b < a
    · have e : cmp1 a b = 1 := by simp [cmp1, h1, h2]
      rw [e]
      go_enter Tryz.func85, Tryz.ntmps85
      go_wp2_with (go_at_call 100; refine (isNaN_any _ _).mono ?_; rintro e w' ⟨rfl, rfl⟩)
      go_ret
      exact ⟨rfl, rfl⟩
    · have e : cmp1 a b = 0 := by simp [cmp1, h1, h2]
      rw [e]
      go_enter Tryz.func85, Tryz.ntmps85
      go_wp2_with (go_at_call 100; refine (isNaN_any _ _).mono ?_; rintro e w' ⟨rfl, rfl⟩)
      go_ret
      exact ⟨rfl, rfl⟩

theorem info65 : ∃ j, Tryz.prog.info? 102 = some j := by
  have : (Tryz.prog.info? 102).isSome = true := by kernel_rfl
  exact Option.isSome_iff_exists.1 this
theorem same26 (w : World) (a : Addr) : (binOp .eql 63 (.pointer (some a)) (.pointer (some a))).run Tryz.prog w = .ok (.bool true) w := by
  obtain ⟨j, hj⟩ := info65
  exact run_eql_ptr_same w a Tryz.underlying63 hj
theorem none26 (w : World) (a : Addr) : (binOp .eql 63 (.pointer none) (.pointer (some a))).run Tryz.prog w = .ok (.bool false) w := by
  have h : ∀ d : Nat, (Op.equalIn (d + 1) 63 (.pointer none) (.pointer (some a))).run Tryz.prog w = .ok false w := fun d => by
    simp [Op.equalIn, run_underlying Tryz.underlying63]
  simp only [binOp]
  simp [Op.equal, Op.maxDepth, h 9999]

set_option maxRecDepth 100000 in
theorem made_any {w : World} {b : Nat} {sv : Value} {L : List It} (h : Hb w b sv L) : Calls Tryz.prog 48 #[.pointer (some ⟨b, 0, none⟩)] w fun e w' => e = .returned (.bool true) ∧ w = w' := by
  obtain ⟨c0, c1, c2⟩ := h.cells
  clear h
  have he := same26 w ⟨b, 0, none⟩
  go_enter Tryz.func48, Tryz.ntmps48
  go_wp2
  go_ret
  exact ⟨rfl, rfl⟩
theorem made_nil (w : World) : Calls Tryz.prog 48 #[.pointer none] w fun e w' => e = .returned (.bool false) ∧ w = w' := by
  go_enter Tryz.func48, Tryz.ntmps48
  go_wp2
  go_ret
  exact ⟨rfl, rfl⟩
set_option maxRecDepth 100000 in
theorem made_zero {w : World} {b : Nat} (h : w.cell? ⟨b, 0, none⟩ = some (.pointer none)) : Calls Tryz.prog 48 #[.pointer (some ⟨b, 0, none⟩)] w fun e w' => e = .returned (.bool false) ∧ w = w' := by
  have he := none26 w ⟨b, 0, none⟩
  go_enter Tryz.func48, Tryz.ntmps48
  go_wp2
  go_ret
  exact ⟨rfl, rfl⟩

theorem row_at {w : World} {base gg n c : Nat} {t : TypeId} {L : List It} (h : w.ownsRow base t 2 (.slice (some ⟨gg, 0, none⟩) n c) n (flat L)) {k : Nat} (hk : k < L.length) :
    w.cell? ⟨gg, k * 2, none⟩ = some (.int .i64 (g L k).1) ∧ w.cell? ⟨gg, k * 2 + 1, none⟩ = some (.int .i64 (g L k).2) := by
  have hn := h.1
  rw [flat_len] at hn
  rw [h.cellAt _ (by omega), h.cellAt _ (by omega), g_get hk]
  exact flat_at L k hk

theorem len_any {w : World} {b : Nat} {sv : Value} {L : List It} (h : Hb w b sv L) : Calls Tryz.prog 52 #[.pointer (some ⟨b, 0, none⟩)] w fun e w' => e = .returned (.int .i64 (L.length : Int)) ∧ w = w' := by
  obtain ⟨c0, c1, c2⟩ := h.cells
  obtain ⟨A, c, rfl, _⟩ := row_form h.row
  go_enter Tryz.func52, Tryz.ntmps52
  go_wp2_with fail
  refine (made_any h).mono ?_
  rintro e w' ⟨rfl, rfl⟩
  clear h
  go_wp2_with fail
  go_ret
  exact ⟨rfl, rfl⟩

/-- what First answers -/
def FirstR (L : List It) (w : World) (e : Ending) (w' : World) : Prop := e = .returned (.tuple #[.agg #[.int .i64 (g L 0).1, .int .i64 (g L 0).2], .bool (decide (0 < L.length))]) ∧ Below w.heap.size w w'
theorem first_any {w : World} {b : Nat} {sv : Value} {L : List It} (h : Hb w b sv L) (hL : L.length ≤ maxLen) : Calls Tryz.prog 41 #[.pointer (some ⟨b, 0, none⟩)] w (FirstR L w) := by
  unfold maxLen at hL
  have H := Lib.hid h
  by_cases h0 : L.length = 0
  · have e : L = [] := List.eq_nil_of_length_eq_zero h0
    subst e
    clear h0 hL h
    go_enter Tryz.func41, Tryz.ntmps41
    go_wp2_with fail
    refine (len_any (H.out.below ((Below.refl _ _).alloc (Nat.le_refl _) _))).mono ?_
    rintro e w' ⟨rfl, rfl⟩
    go_wp2_with fail
    refine bodyPost_ret (v := .tuple #[.agg #[.int .i64 0, .int .i64 0], .bool false]) (by simp [results, Tryz.results41, go_sem]) rfl ⟨rfl, ?_⟩
    exact ((Below.refl _ _).alloc (Nat.le_refl _) _)
  · have hpos : 0 < L.length := by omega
    have hne : ((L.length : Int) == 0) = false := by rw [beq_eq_false_iff_ne]; omega
    obtain ⟨A, c, rfl, hf, _⟩ := row_form h.row
    obtain ⟨gg, rfl, _, hgl⟩ := hf hpos
    obtain ⟨c0, c1, c2⟩ := h.cells
    obtain ⟨k1, k2⟩ : w.cell? ⟨gg, 0, none⟩ = some (.int .i64 (g L 0).1) ∧ w.cell? ⟨gg, 1, none⟩ = some (.int .i64 (g L 0).2) := row_at h.row hpos
    have hlb := h.ltb
    obtain ⟨x, hx⟩ : ∃ x, g L 0 = x := ⟨_, rfl⟩
    unfold FirstR
    rw [hx] at k1 k2 ⊢
    rw [decide_eq_true hpos]
    clear h h0 hx hf
    go_enter Tryz.func41, Tryz.ntmps41
    go_wp2_with fail
    refine (len_any (H.out.below ((Below.refl _ _).alloc (Nat.le_refl _) _))).mono ?_
    rintro e w' ⟨rfl, rfl⟩
    go_wp2_with fail
    refine bodyPost_ret (v := .tuple #[.agg #[.int .i64 x.1, .int .i64 x.2], .bool true]) (by simp [results, Tryz.results41, go_sem]) rfl ⟨rfl, ?_⟩
    go_grown

theorem or_any (a b : Int) (gg : Nat) (w : World) (c0 : w.cell? ⟨gg, 0, none⟩ = some (.int .i64 a)) (c1 : w.cell? ⟨gg, 1, none⟩ = some (.int .i64 b)) :
    Calls Tryz.prog 84 #[.slice (some ⟨gg, 0, none⟩) 2 2] w fun e w' => e = .returned (.int .i64 (if a = 0 then b else a)) ∧ w = w' := by
  by_cases h0 : a = 0
  · subst h0
    rw [if_pos rfl]
    by_cases h1 : b = 0
    · subst h1
      go_enter Tryz.func84, Tryz.ntmps84
      go_wp2_with fail
      go_rounds 3
      go_ret
      exact ⟨rfl, rfl⟩
    · have hb : (b != 0) = true := by simpa using h1
      clear h1
      go_enter Tryz.func84, Tryz.ntmps84
      go_wp2_with fail
      go_rounds 3
      go_ret
      exact ⟨rfl, rfl⟩
  · rw [if_neg h0]
    have hb : (a != 0) = true := by simpa using h0
    clear h0
    go_enter Tryz.func84, Tryz.ntmps84
    go_wp2_with fail
    go_rounds 3
    go_ret
    exact ⟨rfl, rfl⟩

theorem cmpV_or (x y : It) : cmpV x y = if cmp1 x.1 y.1 = 0 then cmp1 x.2 y.2 else cmp1 x.1 y.1 := by
  unfold cmpV cmp1
  by_cases h1 : x.1 < y.1
  · simp [h1]
  · by_cases h2 : y.1 < x.1
    · simp [h1, h2]
    · simp [h1, h2]

end Go.Proofs.YtfcdgfjpmcapkaaGreat
