/- A square of flags in memory. -/
import Derived.Test.YtnohnkhhkeikoaaRC
import Derived.Test.YtnohnkhhkeikoaaHB
import Derived.Test.YtnohnkhhkeikoaaP
import Derived.IntWalk
import Derived.MakeChecks
import Derived.Maps.AppendAt
namespace Go.Proofs.Ytnohnkhhkeikoaa
open Go.ChangeShapes Go.WideShapes Go.ChangeAt Go.RowKit
set_option linter.unusedVariables false
set_option linter.unusedSimpArgs false

attribute [local go_sem] Oper.semAt_some

def upd (f : Nat → Nat → Bool) (i j : Nat) (b : Bool) : Nat → Nat → Bool := fun i' j' => if i' = i ∧ j' = j then b else f i' j'
theorem upd_self (f : Nat → Nat → Bool) (i j : Nat) (b : Bool) : upd f i j b i j = b := by simp [upd]
theorem upd_ne (f : Nat → Nat → Bool) {i j i' j' : Nat} (b : Bool) (h : ¬ (i' = i ∧ j' = j)) : upd f i j b i' j' = f i' j' := by simp [upd, h]

/-- the row at block g holds rows of n + 1 flags, each in a block of its own; all lie at B or above -/
structure MtAt (B : Nat) (w : World) (g : Nat) (r : Nat → Nat) (n : Nat) (f : Nat → Nat → Bool) : Prop where
  hb : B ≤ g
  outer : ∃ cur, w.heap[g]? = some (.cells cur 59 (0, 0)) ∧ ∀ i, i ≤ n → cur[i]? = some (.slice (some ⟨r i, 0, none⟩) (n + 1) (n + 1))
  row : ∀ i, i ≤ n → B ≤ r i ∧ ∃ row, w.heap[r i]? = some (.cells row 4 (0, 0)) ∧ row.size = n + 1 ∧ ∀ j, j ≤ n → row[j]? = some (.bool (f i j))
  inj : ∀ i j, i ≤ n → j ≤ n → r i = r j → i = j

theorem MtAt.lt {B : Nat} {w : World} {g : Nat} {r : Nat → Nat} {n : Nat} {f : Nat → Nat → Bool} (h : MtAt B w g r n f) : g < w.heap.size := by
  obtain ⟨cur, h1, _⟩ := h.outer
  exact (Array.getElem?_eq_some_iff.1 h1).1
theorem MtAt.row_lt {B : Nat} {w : World} {g : Nat} {r : Nat → Nat} {n : Nat} {f : Nat → Nat → Bool} (h : MtAt B w g r n f) {i : Nat} (hi : i ≤ n) : r i < w.heap.size := by
  obtain ⟨_, row, h1, _⟩ := h.row i hi
  exact (Array.getElem?_eq_some_iff.1 h1).1
theorem MtAt.bel {B : Nat} {w w' : World} {g : Nat} {r : Nat → Nat} {n : Nat} {f : Nat → Nat → Bool} (h : MtAt B w g r n f) (hb : Below w.heap.size w w') : MtAt B w' g r n f := by
  refine ⟨h.hb, ?_, fun i hi => ?_, h.inj⟩
  · obtain ⟨cur, h1, h2⟩ := h.outer
    exact ⟨cur, (hb.block _ h.lt).trans h1, h2⟩
  · obtain ⟨hB, row, h1, h2⟩ := h.row i hi
    exact ⟨hB, row, (hb.block _ (h.row_lt hi)).trans h1, h2⟩
theorem MtAt.mono {B B' : Nat} {w : World} {g : Nat} {r : Nat → Nat} {n : Nat} {f : Nat → Nat → Bool} (h : MtAt B w g r n f) (hB : B' ≤ B) : MtAt B' w g r n f :=
  ⟨Nat.le_trans hB h.hb, h.outer, fun i hi => ⟨Nat.le_trans hB (h.row i hi).1, (h.row i hi).2⟩, h.inj⟩
theorem MtAt.ext {B : Nat} {w : World} {g : Nat} {r : Nat → Nat} {n : Nat} {f f' : Nat → Nat → Bool} (h : MtAt B w g r n f) (e : ∀ i j, i ≤ n → j ≤ n → f i j = f' i j) : MtAt B w g r n f' :=
  ⟨h.hb, h.outer, fun i hi => by
    obtain ⟨h1, row, h2, h3, h4⟩ := h.row i hi
    exact ⟨h1, row, h2, h3, fun j hj => by rw [h4 j hj, e i j hi hj]⟩, h.inj⟩
theorem MtAt.cell {B : Nat} {w : World} {g : Nat} {r : Nat → Nat} {n : Nat} {f : Nat → Nat → Bool} (h : MtAt B w g r n f) {i : Nat} (hi : i ≤ n) : w.cell? ⟨g, i, none⟩ = some (.slice (some ⟨r i, 0, none⟩) (n + 1) (n + 1)) := by
  obtain ⟨cur, h1, h2⟩ := h.outer
  rw [cell_of_row _ _ _ _ _ _ h1]
  exact h2 i hi
theorem MtAt.flag {B : Nat} {w : World} {g : Nat} {r : Nat → Nat} {n : Nat} {f : Nat → Nat → Bool} (h : MtAt B w g r n f) {i j : Nat} (hi : i ≤ n) (hj : j ≤ n) : w.cell? ⟨r i, j, none⟩ = some (.bool (f i j)) := by
  obtain ⟨_, row, h1, _, h2⟩ := h.row i hi
  rw [cell_of_row _ _ _ _ _ _ h1]
  exact h2 j hj
theorem MtAt.frozen {B : Nat} {w : World} {g : Nat} {r : Nat → Nat} {n : Nat} {f : Nat → Nat → Bool} (h : MtAt B w g r n f) {i : Nat} (hi : i ≤ n) (j : Nat) : w.frozen? ⟨r i, j, none⟩ = false := by
  obtain ⟨_, row, h1, _, h2⟩ := h.row i hi
  simp [World.frozen?, h1]
theorem MtAt.set {B : Nat} {w : World} {g : Nat} {r : Nat → Nat} {n : Nat} {f : Nat → Nat → Bool} (h : MtAt B w g r n f) {i j : Nat} (hi : i ≤ n) (hj : j ≤ n) (b : Bool) : MtAt B (w.setCell ⟨r i, j, none⟩ (.bool b)) g r n (upd f i j b) := by
  have hne : g ≠ r i := by
    obtain ⟨cur, h1, _⟩ := h.outer
    obtain ⟨_, row, h2, _⟩ := h.row i hi
    rintro e
    rw [e, h2] at h1
    injection h1 with h1
    injection h1 with _ h1 _
    cases h1
  refine ⟨h.hb, ?_, fun i' hi' => ?_, h.inj⟩
  · obtain ⟨cur, h1, h2⟩ := h.outer
    exact ⟨cur, (Below.heap_setCell w _ _ _ hne).trans h1, h2⟩
  · obtain ⟨hB, row, h1, h2, h3⟩ := h.row i' hi'
    by_cases e : i' = i
    · subst e
      refine ⟨hB, row.setIfInBounds j (.bool b), ?_, by simp [h2], fun j' hj' => ?_⟩
      · simp only [World.setCell]
        rw [Array.getElem?_modify]
        simp [h1]
      · by_cases ej : j' = j
        · subst ej
          rw [upd_self, Array.getElem?_setIfInBounds_self_of_lt (by omega)]
        · rw [upd_ne _ _ (fun h => ej h.2), Array.getElem?_setIfInBounds_ne (fun h => ej h.symm)]
          exact h3 j' hj'
    · refine ⟨hB, row, (Below.heap_setCell w _ _ _ (fun h' => e (h.inj _ _ hi' hi h'))).trans h1, h2, fun j' hj' => ?_⟩
      rw [upd_ne _ _ (fun h => e h.1)]
      exact h3 j' hj'

/-- a square as a value -/
def Mt (B : Nat) (w : World) (v : Value) (n : Nat) (f : Nat → Nat → Bool) : Prop := ∃ g c r, v = .slice (some ⟨g, 0, none⟩) (n + 1) c ∧ n + 1 ≤ c ∧ MtAt B w g r n f
theorem Mt.bel {B : Nat} {w w' : World} {v : Value} {n : Nat} {f : Nat → Nat → Bool} (h : Mt B w v n f) (hb : Below w.heap.size w w') : Mt B w' v n f := by
  obtain ⟨g, c, r, e, hc, h⟩ := h
  exact ⟨g, c, r, e, hc, h.bel hb⟩
theorem Mt.mono {B B' : Nat} {w : World} {v : Value} {n : Nat} {f : Nat → Nat → Bool} (h : Mt B w v n f) (hB : B' ≤ B) : Mt B' w v n f := by
  obtain ⟨g, c, r, e, hc, h⟩ := h
  exact ⟨g, c, r, e, hc, h.mono hB⟩
theorem Mt.ext {B : Nat} {w : World} {v : Value} {n : Nat} {f f' : Nat → Nat → Bool} (h : Mt B w v n f) (e : ∀ i j, i ≤ n → j ≤ n → f i j = f' i j) : Mt B w v n f' := by
  obtain ⟨g, c, r, e1, hc, h⟩ := h
  exact ⟨g, c, r, e1, hc, h.ext e⟩

theorem parts59 : (Try.prog.info? 59).map (fun i => (i.zero, i.size, i.bytes)) = some (some (.slice none 0 0), 1, 24) := by kernel_rfl
theorem parts4 : (Try.prog.info? 4).map (fun i => (i.zero, i.size, i.bytes)) = some (some (.bool false), 1, 1) := by kernel_rfl

/-- the rows that are made so far -/
def rowsV (r : Nat → Nat) (n k : Nat) : List Value := (List.range k).map fun i => .slice (some ⟨r i, 0, none⟩) (n + 1) (n + 1)
structure MkR (W : World) (B : Nat) (r : Nat → Nat) (n k : Nat) : Prop where
  row : ∀ i, i < k → B ≤ r i ∧ ∃ row, W.heap[r i]? = some (.cells row 4 (0, 0)) ∧ row.size = n + 1 ∧ ∀ j, j ≤ n → row[j]? = some (.bool false)
  up : ∀ i j, i < j → j < k → r i < r j
theorem made_flags (n : Nat) : (madeCells (Value.bool false).cells (n + 1)).size = n + 1 ∧ ∀ j, j ≤ n → (madeCells (Value.bool false).cells (n + 1))[j]? = some (.bool false) := by
  refine ⟨size_madeCells _ _, fun j hj => ?_⟩
  have hz : (Value.bool false).cells = #[.bool false] := rfl
  rw [hz]
  have hz2 : ∀ m, (#[Value.bool false] : Array Value)[m % (#[Value.bool false] : Array Value).size]! = .bool false := fun m => by
    have : m % (#[Value.bool false] : Array Value).size = 0 := by simp [Nat.mod_one]
    rw [this]; rfl
  unfold madeCells
  rw [Array.getElem?_map, Array.getElem?_range, if_pos (by omega)]
  exact congrArg some (hz2 j)

/-- a row more -/
theorem MkR.more {w W w4 : World} {B n k : Nat} {r : Nat → Nat} {v : Value} {xs : List Value} {M : Array Value} (h : MkR W B r n k) (hown : W.ownsRow B 59 1 v k xs) (hB : B ≤ W.heap.size) (hM : M.size = n + 1 ∧ ∀ j, j ≤ n → M[j]? = some (.bool false))
    {o : Obj} (hg : ((W.alloc (.cells M 4)).alloc o).grownBy w4 v.ownBlock) : MkR w4 B (fun i => if i = k then W.heap.size else r i) n (k + 1) := by
  have hlt : ∀ g, v.ownBlock = some g → g < W.heap.size := fun g e => (hown.lt g e).2
  have hty : ∀ g, v.ownBlock = some g → ∃ cur, W.heap[g]? = some (.cells cur 59 (0, 0)) := fun g e => by
    rcases hown.2 with ⟨rfl, _⟩ | ⟨g', cap, cur, rfl, _, hgg, _⟩
    · cases e
    · obtain rfl : g' = g := by simpa [Value.ownBlock] using e
      exact ⟨cur, hgg⟩
  refine ⟨fun i hi => ?_, fun i j hij hj => ?_⟩
  · by_cases e : i = k
    · subst e
      rw [if_pos rfl]
      refine ⟨hB, M, ?_, hM.1, hM.2⟩
      rw [hg.block _ (by simp; omega) (fun e => Nat.lt_irrefl _ (hlt _ e.symm)), Below.heap_alloc _ _ _ (by simp)]
      exact at_push _ _
    · rw [if_neg e]
      obtain ⟨h1, row, h2, h3⟩ := h.row i (by omega)
      have hl := (Array.getElem?_eq_some_iff.1 h2).1
      refine ⟨h1, row, ?_, h3⟩
      rw [hg.block _ (by simp; omega) (fun e => by
        obtain ⟨cur, h4⟩ := hty _ e.symm
        rw [h2] at h4
        injection h4 with h4
        injection h4 with _ h4 _
        cases h4), Below.heap_alloc _ _ _ (by simp; omega), Below.heap_alloc _ _ _ hl]
      exact h2
  · have hik : i ≠ k := by omega
    show (if i = k then W.heap.size else r i) < (if j = k then W.heap.size else r j)
    rw [if_neg hik]
    by_cases e : j = k
    · rw [if_pos e]
      obtain ⟨_, row, h2, _⟩ := h.row i (by omega)
      exact (Array.getElem?_eq_some_iff.1 h2).1
    · rw [if_neg e]
      exact h.up i j hij (by omega)
theorem rowsV_more (r : Nat → Nat) (n k m : Nat) : rowsV (fun i => if i = k then m else r i) n (k + 1) = rowsV r n k ++ [.slice (some ⟨m, 0, none⟩) (n + 1) (n + 1)] := by
  unfold rowsV
  rw [List.range_succ, List.map_append]
  congr 1
  · refine List.map_congr_left fun i hi => ?_
    have : i < k := List.mem_range.1 hi
    show Value.slice (some ⟨if i = k then m else r i, 0, none⟩) (n + 1) (n + 1) = _
    rw [if_neg (by omega)]
  · simp
theorem MkR.mt {w : World} {B n : Nat} {r : Nat → Nat} {v : Value} (h : MkR w B r n (n + 1)) (hown : w.ownsRow B 59 1 v (n + 1) (rowsV r n (n + 1))) : Mt B w v n (fun _ _ => false) := by
  rcases hown.2 with ⟨_, h0⟩ | ⟨g, cap, cur, rfl, hb, hgg, hc, _, hcs, ht⟩
  · omega
  · refine ⟨g, cap, r, rfl, hc, hb, ⟨cur, hgg, fun i hi => ?_⟩, fun i hi => h.row i (by omega), fun i j hi hj e => ?_⟩
    · have h1 : (cur.toList.take ((n + 1) * 1))[i]? = (rowsV r n (n + 1))[i]? := by rw [ht]
      rw [List.getElem?_take_of_lt (by omega), Array.getElem?_toList] at h1
      rw [h1]
      simp [rowsV, show i < n + 1 by omega]
    · rcases Nat.lt_trichotomy i j with h1 | h1 | h1
      · have := h.up i j h1 (by omega); omega
      · exact h1
      · have := h.up j i h1 (by omega); omega

set_option maxRecDepth 100000 in
set_option maxHeartbeats 4000000 in
theorem none60_any (w : World) (n : Nat) (hn : n ≤ 100000) : Calls Try.prog 60 #[.int .i64 n] w fun e w' => ∃ v, e = .returned v ∧ Mt w.heap.size w' v n (fun _ _ => false) ∧ Below w.heap.size w w' := by
  obtain ⟨i0, hi, hy0, hy1, hy2⟩ := info_parts parts59
  obtain ⟨i4, hi4, hz4, hs4, hb4⟩ := info_parts parts4
  obtain ⟨M, hM⟩ : ∃ M, M = madeCells (Value.bool false).cells (n + 1) := ⟨_, rfl⟩
  have hmk : ∀ W : World, (Instr.makeSlice 59 (.int .i64 ((n : Int) + 1)) (.int .i64 ((n : Int) + 1))).run Try.prog W = .ok (.slice (some ⟨W.heap.size, 0, none⟩) (n + 1) (n + 1)) (W.alloc (.cells M 4)) := fun W => by
    have h := run_make (P := Try.prog) W 59 4 i4 (.bool false) Try.underlying59 hi4 hz4 .i64 .i64 ((n : Int) + 1) ((n : Int) + 1) (by omega) (by omega) (by rw [hb4]; omega) (by omega)
    rw [show ((n : Int) + 1).toNat = n + 1 by omega, hs4, Nat.mul_one, ← hM] at h
    exact h
  have HM := Lib.hid (show M.size = n + 1 ∧ ∀ j, j ≤ n → M[j]? = some (.bool false) by rw [hM]; exact made_flags n)
  clear hM
  go_enter Try.func60, Try.ntmps60
  go_upto_region 3 with (fail)
  go_loopw [3, 4] (fun u3 u4 wr => ∃ (k : Nat) (r : Nat → Nat), k ≤ n + 1 ∧ u4 = .int .i64 k ∧ wr.ownsRow w.heap.size 59 1 u3 k (rowsV r n k) ∧ MkR wr w.heap.size r n k ∧ Below w.heap.size w wr) (fun _ u4 _ => n + 2 - (intOf u4).toNat)
  case atStart => exact ⟨0, fun _ => 0, Nat.zero_le _, rfl, World.ownsRow_nil _ _ _ _, ⟨fun i h => absurd h (Nat.not_lt_zero _), fun i j _ h => absurd h (Nat.not_lt_zero _)⟩, Below.refl _ _⟩
  case round =>
    obtain ⟨k, r, hk, rfl, hrow, hrw, hbe⟩ := hrel
    have HROW := Lib.hid hrow
    have HRW := Lib.hid hrw
    have HBE := Lib.hid hbe
    have hzr := hbe.size
    clear hrow hrw hbe
    by_cases hkn : k ≤ n
    · have hki : (k : Int) ≤ (n : Int) := by omega
      obtain ⟨A, c, rfl⟩ := row_form HROW.out
      go_wp2_with (at_builtin; refine wpList_append_own_at _ rfl _ _ 57 rfl w.heap.size 59 i0 (.slice none 0 0) 1 24 Try.underlying57 hi hy0 hy1 hy2 rfl (by decide) _ _ _ rfl ((HROW.out.alloc _).alloc _) ⟨wr.heap.size + 1, 0, none⟩ 1 1 [.slice (some ⟨wr.heap.size, 0, none⟩) (n + 1) (n + 1)] rfl rfl (lit_cells (wr.alloc _) _ (by simp) _ 59) (by simp [Value.oneCell']) (by unfold maxLen; omega) (by omega) (by simp; omega) ?_; intro v' w4 hown' hgrow hnil hloc)
      go_roundw
      case rel =>
        refine ⟨k + 1, fun i => if i = k then wr.heap.size else r i, by omega, by go_num, ?_, HRW.out.more (w := w) HROW.out hzr HM.out hgrow, ?_⟩
        · rw [rowsV_more]
          exact hown'
        · exact ((HBE.out.alloc hzr _).alloc (by simp; omega) _).grown hgrow (by simp; omega) (fun g hg => (HROW.out.lt g hg).1)
      case measure => simp [intOf]; omega
    · have hki : ¬ (k : Int) ≤ (n : Int) := by omega
      obtain rfl : k = n + 1 := by omega
      go_wp2_with fail
      go_ret
      exact ⟨_, rfl, HRW.out.mt HROW.out, HBE.out⟩
end Go.Proofs.Ytnohnkhhkeikoaa
