/- Texts RD, RE, ZA, ZB, one behind the other. -/
import Derived.Test.YtnccgaanfjaimaaDoorH2
import Derived.Test.YtnccgaanfjaimaaDoorH3
import Derived.Test.YtnccgaanfjaimaaDoorH4
import Derived.IntWalk
import Derived.MakeChecks
import Derived.Maps.AppendAt
import Derived.BigRegion
set_option linter.unusedSimpArgs false
set_option linter.unusedVariables false
namespace Go.Proofs.YtnccgaanfjaimaaDoor
open Go.ChangeShapes Go.WideShapes Go.ChangeAt Go.RowKit
set_option linter.unusedVariables false
set_option linter.unusedSimpArgs false

attribute [local go_sem] Oper.semAt_some

def upd (f : Nat → Nat → Bool) (i j : Nat) (b : Bool) : Nat → Nat → Bool := fun i' j' => if i' = i ∧ j' = j then b else f i' j'
theorem upd_self (f : Nat → Nat → Bool) (i j : Nat) (b : Bool) : upd f i j b i j = b := by simp [upd]
theorem upd_ne (f : Nat → Nat → Bool) {i j i' j' : Nat} (b : Bool) (h : ¬ (i' = i ∧ j' = j)) : upd f i j b i' j' = f i' j' := by simp [upd, h]

/-- the row at block g holds rows of n + 1 flags, each in a block of its own; all lie at B or above -/
structure MtAt (B : Nat) (w : World) (g : Nat) (r : Nat → Nat) (n : Nat) (f : Nat → Nat → Bool) : Prop where
  hb : B ≤ g
  outer : ∃ cur, w.heap[g]? = some (.cells cur 42 (0, 0)) ∧ ∀ i, i ≤ n → cur[i]? = some (.slice (some ⟨r i, 0, none⟩) (n + 1) (n + 1))
  row : ∀ i, i ≤ n → B ≤ r i ∧ ∃ row, w.heap[r i]? = some (.cells row 4 (0, 0)) ∧ row.size = n + 1 ∧ ∀ j, j ≤ n → row[j]? = some (.bool (f i j))
  inj : ∀ i j, i ≤ n → j ≤ n → r i = r j → i = j

theorem MtAt.lt {B : Nat} {w : World} {g : Nat} {r : Nat → Nat} {n : Nat} {f : Nat → Nat → Bool} (h : MtAt B w g r n f) : g < w.heap.size := by
  obtain ⟨cur, h1, _⟩ := h.outer
  exact (Array.getElem?_eq_some_iff.1 h1).1
theorem MtAt.row_lt {B : Nat} {w : World} {g : Nat} {r : Nat → Nat} {n : Nat} {f : Nat → Nat → Bool} (h : MtAt B w g r n f) {i : Nat} (hi : i ≤ n) : r i < w.heap.size := by
  obtain ⟨_, row, h1, _⟩ := h.row i hi
  exact (Array.getElem?_eq_some_iff.1 h1).1
theorem MtAt.bel {B : Nat} {w w' : World} {g : Nat} {r : Nat → Nat} {n : Nat} {f : Nat → Nat → Bool} (h : MtAt B w g r n f) (hb : Below w.heap.size w w') : MtAt B w' g r n f := by
  refine ⟨h.hb, ?_, fun i hi => ?_, h.inj⟩
  · obtain ⟨cur, h1, h2⟩ := h.outer
    exact ⟨cur, (hb.block _ h.lt).trans h1, h2⟩
  · obtain ⟨hB, row, h1, h2⟩ := h.row i hi
    exact ⟨hB, row, (hb.block _ (h.row_lt hi)).trans h1, h2⟩
theorem MtAt.mono {B B' : Nat} {w : World} {g : Nat} {r : Nat → Nat} {n : Nat} {f : Nat → Nat → Bool} (h : MtAt B w g r n f) (hB : B' ≤ B) : MtAt B' w g r n f :=
  ⟨Nat.le_trans hB h.hb, h.outer, fun i hi => ⟨Nat.le_trans hB (h.row i hi).1, (h.row i hi).2⟩, h.inj⟩
theorem MtAt.ext {B : Nat} {w : World} {g : Nat} {r : Nat → Nat} {n : Nat} {f f' : Nat → Nat → Bool} (h : MtAt B w g r n f) (e : ∀ i j, i ≤ n → j ≤ n → f i j = f' i j) : MtAt B w g r n f' :=
  ⟨h.hb, h.outer, fun i hi => by
    obtain ⟨h1, row, h2, h3, h4⟩ := h.row i hi
    exact ⟨h1, row, h2, h3, fun j hj => by rw [h4 j hj, e i j hi hj]⟩, h.inj⟩
theorem MtAt.cell {B : Nat} {w : World} {g : Nat} {r : Nat → Nat} {n : Nat} {f : Nat → Nat → Bool} (h : MtAt B w g r n f) {i : Nat} (hi : i ≤ n) : w.cell? ⟨g, i, none⟩ = some (.slice (some ⟨r i, 0, none⟩) (n + 1) (n + 1)) := by
  obtain ⟨cur, h1, h2⟩ := h.outer
  rw [cell_of_row _ _ _ _ _ _ h1]
  exact h2 i hi
theorem MtAt.flag {B : Nat} {w : World} {g : Nat} {r : Nat → Nat} {n : Nat} {f : Nat → Nat → Bool} (h : MtAt B w g r n f) {i j : Nat} (hi : i ≤ n) (hj : j ≤ n) : w.cell? ⟨r i, j, none⟩ = some (.bool (f i j)) := by
  obtain ⟨_, row, h1, _, h2⟩ := h.row i hi
  rw [cell_of_row _ _ _ _ _ _ h1]
  exact h2 j hj
theorem MtAt.frozen {B : Nat} {w : World} {g : Nat} {r : Nat → Nat} {n : Nat} {f : Nat → Nat → Bool} (h : MtAt B w g r n f) {i : Nat} (hi : i ≤ n) (j : Nat) : w.frozen? ⟨r i, j, none⟩ = false := by
  obtain ⟨_, row, h1, _, h2⟩ := h.row i hi
  simp [World.frozen?, h1]
theorem MtAt.set {B : Nat} {w : World} {g : Nat} {r : Nat → Nat} {n : Nat} {f : Nat → Nat → Bool} (h : MtAt B w g r n f) {i j : Nat} (hi : i ≤ n) (hj : j ≤ n) (b : Bool) : MtAt B (w.setCell ⟨r i, j, none⟩ (.bool b)) g r n (upd f i j b) := by
  have hne : g ≠ r i := by
    obtain ⟨cur, h1, _⟩ := h.outer
    obtain ⟨_, row, h2, _⟩ := h.row i hi
    rintro e
    rw [e, h2] at h1
    injection h1 with h1
    injection h1 with _ h1 _
    cases h1
  refine ⟨h.hb, ?_, fun i' hi' => ?_, h.inj⟩
  · obtain ⟨cur, h1, h2⟩ := h.outer
    exact ⟨cur, (Below.heap_setCell w _ _ _ hne).trans h1, h2⟩
  · obtain ⟨hB, row, h1, h2, h3⟩ := h.row i' hi'
    by_cases e : i' = i
    · subst e
      refine ⟨hB, row.setIfInBounds j (.bool b), ?_, by simp [h2], fun j' hj' => ?_⟩
      · simp only [World.setCell]
        rw [Array.getElem?_modify]
        simp [h1]
      · by_cases ej : j' = j
        · subst ej
          rw [upd_self, Array.getElem?_setIfInBounds_self_of_lt (by omega)]
        · rw [upd_ne _ _ (fun h => ej h.2), Array.getElem?_setIfInBounds_ne (fun h => ej h.symm)]
          exact h3 j' hj'
    · refine ⟨hB, row, (Below.heap_setCell w _ _ _ (fun h' => e (h.inj _ _ hi' hi h'))).trans h1, h2, fun j' hj' => ?_⟩
      rw [upd_ne _ _ (fun h => e h.1)]
      exact h3 j' hj'

/-- a square as a value -/
def Mt (B : Nat) (w : World) (v : Value) (n : Nat) (f : Nat → Nat → Bool) : Prop := ∃ g c r, v = .slice (some ⟨g, 0, none⟩) (n + 1) c ∧ n + 1 ≤ c ∧ MtAt B w g r n f
theorem Mt.bel {B : Nat} {w w' : World} {v : Value} {n : Nat} {f : Nat → Nat → Bool} (h : Mt B w v n f) (hb : Below w.heap.size w w') : Mt B w' v n f := by
  obtain ⟨g, c, r, e, hc, h⟩ := h
  exact ⟨g, c, r, e, hc, h.bel hb⟩
theorem Mt.mono {B B' : Nat} {w : World} {v : Value} {n : Nat} {f : Nat → Nat → Bool} (h : Mt B w v n f) (hB : B' ≤ B) : Mt B' w v n f := by
  obtain ⟨g, c, r, e, hc, h⟩ := h
  exact ⟨g, c, r, e, hc, h.mono hB⟩
theorem Mt.ext {B : Nat} {w : World} {v : Value} {n : Nat} {f f' : Nat → Nat → Bool} (h : Mt B w v n f) (e : ∀ i j, i ≤ n → j ≤ n → f i j = f' i j) : Mt B w v n f' := by
  obtain ⟨g, c, r, e1, hc, h⟩ := h
  exact ⟨g, c, r, e1, hc, h.ext e⟩

theorem parts59 : (Tryd.prog.info? 42).map (fun i => (i.zero, i.size, i.bytes)) = some (some (.slice none 0 0), 1, 24) := by kernel_rfl
theorem parts4 : (Tryd.prog.info? 4).map (fun i => (i.zero, i.size, i.bytes)) = some (some (.bool false), 1, 1) := by kernel_rfl

/-- the rows that are made so far -/
def rowsV (r : Nat → Nat) (n k : Nat) : List Value := (List.range k).map fun i => .slice (some ⟨r i, 0, none⟩) (n + 1) (n + 1)
structure MkR (W : World) (B : Nat) (r : Nat → Nat) (n k : Nat) : Prop where
  row : ∀ i, i < k → B ≤ r i ∧ ∃ row, W.heap[r i]? = some (.cells row 4 (0, 0)) ∧ row.size = n + 1 ∧ ∀ j, j ≤ n → row[j]? = some (.bool false)
  up : ∀ i j, i < j → j < k → r i < r j
theorem made_flags (n : Nat) : (madeCells (Value.bool false).cells (n + 1)).size = n + 1 ∧ ∀ j, j ≤ n → (madeCells (Value.bool false).cells (n + 1))[j]? = some (.bool false) := by
  refine ⟨size_madeCells _ _, fun j hj => ?_⟩
  have hz : (Value.bool false).cells = #[.bool false] := rfl
  rw [hz]
  have hz2 : ∀ m, (#[Value.bool false] : Array Value)[m % (#[Value.bool false] : Array Value).size]! = .bool false := fun m => by
    have : m % (#[Value.bool false] : Array Value).size = 0 := by simp [Nat.mod_one]
    rw [this]; rfl
  unfold madeCells
  rw [Array.getElem?_map, Array.getElem?_range, if_pos (by omega)]
  exact congrArg some (hz2 j)

/-- a row more -/
theorem MkR.more {w W w4 : World} {B n k : Nat} {r : Nat → Nat} {v : Value} {xs : List Value} {M : Array Value} (h : MkR W B r n k) (hown : W.ownsRow B 42 1 v k xs) (hB : B ≤ W.heap.size) (hM : M.size = n + 1 ∧ ∀ j, j ≤ n → M[j]? = some (.bool false))
    {o : Obj} (hg : ((W.alloc (.cells M 4)).alloc o).grownBy w4 v.ownBlock) : MkR w4 B (fun i => if i = k then W.heap.size else r i) n (k + 1) := by
  have hlt : ∀ g, v.ownBlock = some g → g < W.heap.size := fun g e => (hown.lt g e).2
  have hty : ∀ g, v.ownBlock = some g → ∃ cur, W.heap[g]? = some (.cells cur 42 (0, 0)) := fun g e => by
    rcases hown.2 with ⟨rfl, _⟩ | ⟨g', cap, cur, rfl, _, hgg, _⟩
    · cases e
    · obtain rfl : g' = g := by simpa [Value.ownBlock] using e
      exact ⟨cur, hgg⟩
  refine ⟨fun i hi => ?_, fun i j hij hj => ?_⟩
  · by_cases e : i = k
    · subst e
      rw [if_pos rfl]
      refine ⟨hB, M, ?_, hM.1, hM.2⟩
      rw [hg.block _ (by simp; omega) (fun e => Nat.lt_irrefl _ (hlt _ e.symm)), Below.heap_alloc _ _ _ (by simp)]
      exact at_push _ _
    · rw [if_neg e]
      obtain ⟨h1, row, h2, h3⟩ := h.row i (by omega)
      have hl := (Array.getElem?_eq_some_iff.1 h2).1
      refine ⟨h1, row, ?_, h3⟩
      rw [hg.block _ (by simp; omega) (fun e => by
        obtain ⟨cur, h4⟩ := hty _ e.symm
        rw [h2] at h4
        injection h4 with h4
        injection h4 with _ h4 _
        cases h4), Below.heap_alloc _ _ _ (by simp; omega), Below.heap_alloc _ _ _ hl]
      exact h2
  · have hik : i ≠ k := by omega
    show (if i = k then W.heap.size else r i) < (if j = k then W.heap.size else r j)
    rw [if_neg hik]
    by_cases e : j = k
    · rw [if_pos e]
      obtain ⟨_, row, h2, _⟩ := h.row i (by omega)
      exact (Array.getElem?_eq_some_iff.1 h2).1
    · rw [if_neg e]
      exact h.up i j hij (by omega)
theorem rowsV_more (r : Nat → Nat) (n k m : Nat) : rowsV (fun i => if i = k then m else r i) n (k + 1) = rowsV r n k ++ [.slice (some ⟨m, 0, none⟩) (n + 1) (n + 1)] := by
  unfold rowsV
  rw [List.range_succ, List.map_append]
  congr 1
  · refine List.map_congr_left fun i hi => ?_
    have : i < k := List.mem_range.1 hi
    show Value.slice (some ⟨if i = k then m else r i, 0, none⟩) (n + 1) (n + 1) = _
    rw [if_neg (by omega)]
  · simp
theorem MkR.mt {w : World} {B n : Nat} {r : Nat → Nat} {v : Value} (h : MkR w B r n (n + 1)) (hown : w.ownsRow B 42 1 v (n + 1) (rowsV r n (n + 1))) : Mt B w v n (fun _ _ => false) := by
  rcases hown.2 with ⟨_, h0⟩ | ⟨g, cap, cur, rfl, hb, hgg, hc, _, hcs, ht⟩
  · omega
  · refine ⟨g, cap, r, rfl, hc, hb, ⟨cur, hgg, fun i hi => ?_⟩, fun i hi => h.row i (by omega), fun i j hi hj e => ?_⟩
    · have h1 : (cur.toList.take ((n + 1) * 1))[i]? = (rowsV r n (n + 1))[i]? := by rw [ht]
      rw [List.getElem?_take_of_lt (by omega), Array.getElem?_toList] at h1
      rw [h1]
      simp [rowsV, show i < n + 1 by omega]
    · rcases Nat.lt_trichotomy i j with h1 | h1 | h1
      · have := h.up i j h1 (by omega); omega
      · exact h1
      · have := h.up j i h1 (by omega); omega

set_option maxRecDepth 100000 in
set_option maxHeartbeats 4000000 in
theorem none60_any (w : World) (n : Nat) (hn : n ≤ 100000) : Calls Tryd.prog 88 #[.int .i64 n] w fun e w' => ∃ v, e = .returned v ∧ Mt w.heap.size w' v n (fun _ _ => false) ∧ Below w.heap.size w w' := by
  obtain ⟨i0, hi, hy0, hy1, hy2⟩ := info_parts parts59
  obtain ⟨i4, hi4, hz4, hs4, hb4⟩ := info_parts parts4
  obtain ⟨M, hM⟩ : ∃ M, M = madeCells (Value.bool false).cells (n + 1) := ⟨_, rfl⟩
  have hmk : ∀ W : World, (Instr.makeSlice 42 (.int .i64 ((n : Int) + 1)) (.int .i64 ((n : Int) + 1))).run Tryd.prog W = .ok (.slice (some ⟨W.heap.size, 0, none⟩) (n + 1) (n + 1)) (W.alloc (.cells M 4)) := fun W => by
    have h := run_make (P := Tryd.prog) W 42 4 i4 (.bool false) Tryd.underlying42 hi4 hz4 .i64 .i64 ((n : Int) + 1) ((n : Int) + 1) (by omega) (by omega) (by rw [hb4]; omega) (by omega)
    rw [show ((n : Int) + 1).toNat = n + 1 by omega, hs4, Nat.mul_one, ← hM] at h
    exact h
  have HM := Lib.hid (show M.size = n + 1 ∧ ∀ j, j ≤ n → M[j]? = some (.bool false) by rw [hM]; exact made_flags n)
  clear hM
  go_enter Tryd.func88, Tryd.ntmps88
  go_upto_region 3 with (fail)
  go_loopw [3, 4] (fun u3 u4 wr => ∃ (k : Nat) (r : Nat → Nat), k ≤ n + 1 ∧ u4 = .int .i64 k ∧ wr.ownsRow w.heap.size 42 1 u3 k (rowsV r n k) ∧ MkR wr w.heap.size r n k ∧ Below w.heap.size w wr) (fun _ u4 _ => n + 2 - (intOf u4).toNat)
  case atStart => exact ⟨0, fun _ => 0, Nat.zero_le _, rfl, World.ownsRow_nil _ _ _ _, ⟨fun i h => absurd h (Nat.not_lt_zero _), fun i j _ h => absurd h (Nat.not_lt_zero _)⟩, Below.refl _ _⟩
  case round =>
    obtain ⟨k, r, hk, rfl, hrow, hrw, hbe⟩ := hrel
    have HROW := Lib.hid hrow
    have HRW := Lib.hid hrw
    have HBE := Lib.hid hbe
    have hzr := hbe.size
    clear hrow hrw hbe
    by_cases hkn : k ≤ n
    · have hki : (k : Int) ≤ (n : Int) := by omega
      obtain ⟨A, c, rfl⟩ := row_form HROW.out
      go_wp2_with (at_builtin; refine wpList_append_own_at _ rfl _ _ 43 rfl w.heap.size 42 i0 (.slice none 0 0) 1 24 Tryd.underlying43 hi hy0 hy1 hy2 rfl (by decide) _ _ _ rfl ((HROW.out.alloc _).alloc _) ⟨wr.heap.size + 1, 0, none⟩ 1 1 [.slice (some ⟨wr.heap.size, 0, none⟩) (n + 1) (n + 1)] rfl rfl (lit_cells (wr.alloc _) _ (by simp) _ 42) (by simp [Value.oneCell']) (by unfold maxLen; omega) (by omega) (by simp; omega) ?_; intro v' w4 hown' hgrow hnil hloc)
      go_roundw
      case rel =>
        refine ⟨k + 1, fun i => if i = k then wr.heap.size else r i, by omega, by go_num, ?_, HRW.out.more (w := w) HROW.out hzr HM.out hgrow, ?_⟩
        · rw [rowsV_more]
          exact hown'
        · exact ((HBE.out.alloc hzr _).alloc (by simp; omega) _).grown hgrow (by simp; omega) (fun g hg => (HROW.out.lt g hg).1)
      case measure => simp [intOf]; omega
    · have hki : ¬ (k : Int) ≤ (n : Int) := by omega
      obtain rfl : k = n + 1 := by omega
      go_wp2_with fail
      go_ret
      exact ⟨_, rfl, HRW.out.mt HROW.out, HBE.out⟩
end Go.Proofs.YtnccgaanfjaimaaDoor

namespace Go.Proofs.YtnccgaanfjaimaaDoor
open Go.ChangeShapes Go.WideShapes Go.ChangeAt Go.RowKit
set_option linter.unusedVariables false
set_option linter.unusedSimpArgs false

attribute [local go_sem] Oper.semAt_some

noncomputable def pB (P : Prop) : Bool := @decide P (Classical.propDecidable P)
theorem pB_iff {P : Prop} : pB P = true ↔ P := ⟨fun h => @of_decide_eq_true _ (Classical.propDecidable _) h, fun h => @decide_eq_true _ (Classical.propDecidable _) h⟩
noncomputable def pF (P : Nat → Nat → Prop) : Nat → Nat → Bool := fun i j => pB (P i j)
theorem pF_iff {P : Nat → Nat → Prop} {i j : Nat} : pF P i j = true ↔ P i j := pB_iff
theorem MtAt.set_p {B : Nat} {w : World} {g : Nat} {r : Nat → Nat} {n : Nat} {P P' : Nat → Nat → Prop} (h : MtAt B w g r n (pF P)) {i j : Nat} (hi : i ≤ n) (hj : j ≤ n) (b : Bool) (hb : b = true ↔ P' i j) (hr : ∀ i' j', ¬ (i' = i ∧ j' = j) → (P i' j' ↔ P' i' j')) :
    MtAt B (w.setCell ⟨r i, j, none⟩ (.bool b)) g r n (pF P') :=
  (h.set hi hj b).ext fun i' j' _ _ => by
    by_cases e : i' = i ∧ j' = j
    · rw [e.1, e.2, upd_self]
      exact bool_ext (hb.trans pF_iff.symm)
    · rw [upd_ne _ _ e]
      exact bool_ext (pF_iff.trans ((hr i' j' e).trans pF_iff.symm))
theorem MtAt.ext_p {B : Nat} {w : World} {g : Nat} {r : Nat → Nat} {n : Nat} {P P' : Nat → Nat → Prop} (h : MtAt B w g r n (pF P)) (e : ∀ i j, i ≤ n → j ≤ n → (P i j ↔ P' i j)) : MtAt B w g r n (pF P') :=
  h.ext fun i j hi hj => bool_ext (pF_iff.trans ((e i j hi hj).trans pF_iff.symm))
theorem Mt.ext_p {B : Nat} {w : World} {v : Value} {n : Nat} {P P' : Nat → Nat → Prop} (h : Mt B w v n (pF P)) (e : ∀ i j, i ≤ n → j ≤ n → (P i j ↔ P' i j)) : Mt B w v n (pF P') :=
  h.ext fun i j hi hj => bool_ext (pF_iff.trans ((e i j hi hj).trans pF_iff.symm))
theorem none_p : (fun _ _ => false) = pF (fun _ _ => False) := funext fun i => funext fun j => bool_ext (by rw [pF_iff]; simp)

set_option maxRecDepth 100000 in
set_option maxHeartbeats 4000000 in
theorem still61_any (w : World) (n : Nat) (hn : n ≤ 100000) : Calls Tryd.prog 89 #[.int .i64 n] w fun e w' => ∃ v, e = .returned v ∧ Mt w.heap.size w' v n (pF fun i j => i = j) ∧ Below w.heap.size w w' := by
  have HN := Lib.hid (none60_any w n hn)
  go_enter Tryd.func89, Tryd.ntmps89
  go_upto_region 3 with (go_at_call 88; refine HN.out.mono ?_; rintro e w1 ⟨v, rfl, hm, hb⟩)
  rw [none_p] at hm
  obtain ⟨g, c, r, rfl, hc, hm⟩ := hm
  have HM := Lib.hid (And.intro hm hb)
  have hcc : n + 1 ≤ c := hc
  clear hm hb
  go_loopw [4] (fun u4 wr => ∃ k : Nat, k ≤ n + 1 ∧ u4 = .int .i64 k ∧ MtAt w.heap.size wr g r n (pF fun i j => i = j ∧ i < k) ∧ Below w.heap.size w wr) (fun u4 _ => n + 2 - (intOf u4).toNat)
  case atStart => exact ⟨0, Nat.zero_le _, rfl, HM.out.1.ext_p (fun i j _ _ => by simp), HM.out.2⟩
  case round =>
    obtain ⟨k, hk, rfl, hm, hb⟩ := hrel
    have HR := Lib.hid (And.intro hm hb)
    by_cases hkn : k ≤ n
    · have hki : (k : Int) ≤ (n : Int) := by omega
      have hki1 : (k : Int) < (n : Int) + 1 := by omega
      have hkn1 : k < n + 1 := by omega
      have h1 := hm.cell hkn
      have h2 := hm.flag hkn hkn
      have h3 := hm.frozen hkn k
      generalize hrk : r k = rk at *
      have HRK := Lib.hid hrk
      clear hm hb hrk
      go_wp2_with fail
      go_roundw
      case rel =>
        refine ⟨k + 1, by omega, by go_num, ?_, ?_⟩
        · have h4 := HR.out.1.set_p (P' := fun i j => i = j ∧ i < k + 1) hkn hkn true (by simp) (fun i' j' h => by omega)
          rw [HRK.out] at h4
          exact h4
        · refine HR.out.2.setCell ?_ _
          have h4 := (HR.out.1.row k hkn).1
          rw [HRK.out] at h4
          exact h4
      case measure => simp [intOf]; omega
    · have hki : ¬ (k : Int) ≤ (n : Int) := by omega
      go_wp2_with fail
      go_ret
      exact ⟨_, rfl, ⟨g, c, r, rfl, hcc, HR.out.1.ext_p (fun i j hi hj => by omega)⟩, HR.out.2⟩

set_option maxRecDepth 100000 in
set_option maxHeartbeats 8000000 in
theorem either63_any {Ba Bb : Nat} {w : World} {va vb : Value} {n : Nat} {P Q : Nat → Nat → Prop} (hn : n ≤ 100000) (ha : Mt Ba w va n (pF P)) (hb : Mt Bb w vb n (pF Q)) :
    Calls Tryd.prog 91 #[va, vb] w fun e w' => ∃ v, e = .returned v ∧ Mt w.heap.size w' v n (pF fun i j => i ≤ j ∧ (P i j ∨ Q i j)) ∧ Below w.heap.size w w' := by
  obtain ⟨ga, ca, ra, rfl, hca, ha⟩ := ha
  obtain ⟨gb, cb, rb, rfl, hcb, hb⟩ := hb
  have HA := Lib.hid (fun W (h : Below w.heap.size w W) => ha.bel h)
  have HB := Lib.hid (fun W (h : Below w.heap.size w W) => hb.bel h)
  have HN := Lib.hid (none60_any w n hn)
  clear ha hb
  go_enter Tryd.func91, Tryd.ntmps91
  go_upto_region 3 with (go_at_call 88; refine HN.out.mono ?_; rintro e w1 ⟨v, rfl, hm, hb⟩)
  rw [none_p] at hm
  obtain ⟨g, c, r, rfl, hc, hm⟩ := hm
  have HM := Lib.hid (And.intro hm hb)
  have hcc : n + 1 ≤ c := hc
  clear hm hb
  go_loopw [6, 7] (fun u6 u7 wr => ∃ k : Nat, k ≤ n + 1 ∧ u6 = .int .i64 k ∧ MtAt w.heap.size wr g r n (pF fun i j => i < k ∧ i ≤ j ∧ (P i j ∨ Q i j)) ∧ Below w.heap.size w wr) (fun u6 u7 _ => n + 2 - (intOf u6).toNat)
  case atStart => exact ⟨0, Nat.zero_le _, rfl, HM.out.1.ext_p (fun i j _ _ => by simp), HM.out.2⟩
  case round =>
    obtain ⟨k, hk, rfl, hm, hb⟩ := hrel
    have HR := Lib.hid (And.intro hm hb)
    clear hm hb HM
    by_cases hkn : k ≤ n
    · have hki1 : (k : Int) < (n : Int) + 1 := by omega
      go_upto_region 6 with (fail)
      go_loopw [7] (fun u7 wr => ∃ m : Nat, k ≤ m ∧ m ≤ n + 1 ∧ u7 = .int .i64 m ∧ MtAt w.heap.size wr g r n (pF fun i j => (i < k ∨ (i = k ∧ j < m)) ∧ i ≤ j ∧ (P i j ∨ Q i j)) ∧ Below w.heap.size w wr) (fun u7 _ => n + 2 - (intOf u7).toNat)
      case atStart =>
        refine ⟨k, Nat.le_refl _, by omega, rfl, HR.out.1.ext_p (fun i j _ _ => ?_), HR.out.2⟩
        constructor
        · rintro ⟨h1, h2⟩; exact ⟨.inl h1, h2⟩
        · rintro ⟨h1 | h1, h2⟩
          · exact ⟨h1, h2⟩
          · omega
      case round =>
        clear HR
        obtain ⟨m, hkm, hmn, rfl, hm, hb⟩ := hrel
        have HR := Lib.hid (And.intro hm hb)
        by_cases hml : m ≤ n
        · have hmi : (m : Int) < (n : Int) + 1 := by omega
          have hm1 : m < n + 1 := by omega
          have hk1 : k < n + 1 := by omega
          have c1 := hm.cell hkn
          have c2 := hm.flag hkn hml
          have c3 := hm.frozen hkn m
          have c4 := (HA.out wr hb).cell hkn
          have c5 := (HA.out wr hb).flag hkn hml
          have c6 := (HB.out wr hb).cell hkn
          have c7 := (HB.out wr hb).flag hkn hml
          generalize hrk : r k = rk at *
          generalize hrak : ra k = rak at *
          generalize hrbk : rb k = rbk at *
          have HRK := Lib.hid hrk
          obtain ⟨x, hx⟩ : ∃ x, pF P k m = x := ⟨_, rfl⟩
          obtain ⟨y, hy⟩ : ∃ y, pF Q k m = y := ⟨_, rfl⟩
          rw [hx] at c5
          rw [hy] at c7
          have HXY := Lib.hid (And.intro hx hy)
          have HF := Lib.hid (show (x || y) = true ↔ P k m ∨ Q k m by rw [← hx, ← hy, Bool.or_eq_true, pF_iff, pF_iff])
          have HFIN := Lib.hid (show MtAt w.heap.size (wr.setCell ⟨rk, m, none⟩ (.bool (x || y))).drew g r n (pF fun i j => (i < k ∨ (i = k ∧ j < m + 1)) ∧ i ≤ j ∧ (P i j ∨ Q i j)) ∧ Below w.heap.size w (wr.setCell ⟨rk, m, none⟩ (.bool (x || y))).drew by
            have h4 := hm.set_p (P' := fun i j => (i < k ∨ (i = k ∧ j < m + 1)) ∧ i ≤ j ∧ (P i j ∨ Q i j)) hkn hml (x || y) (HF.out.trans ⟨fun h => ⟨.inr ⟨rfl, Nat.lt_succ_self _⟩, hkm, h⟩, fun h => h.2.2⟩) (fun i' j' h => by
              constructor
              · rintro ⟨h1, h2⟩
                exact ⟨by omega, h2⟩
              · rintro ⟨h1, h2⟩
                exact ⟨by omega, h2⟩)
            rw [hrk] at h4
            have h5 := (hm.row k hkn).1
            rw [hrk] at h5
            exact ⟨h4.bel (Below.refl _ _).drew, (hb.setCell h5 _).drew⟩)
          clear hx hy hm hb hrk hrak hrbk HR HA HB HN
          go_upto_region 8 with (fail)
          cases x with
          | true =>
            go_region
            go_wp2_with fail
            go_roundw
            case rel => exact ⟨m + 1, by omega, by omega, by go_num, HFIN.out.1, HFIN.out.2⟩
            case measure => simp [intOf]; omega
          | false =>
            go_region
            go_wp2_with fail
            go_roundw
            case rel => exact ⟨m + 1, by omega, by omega, by go_num, HFIN.out.1, HFIN.out.2⟩
            case measure => simp [intOf]; omega
        · have hmi : ¬ (m : Int) < (n : Int) + 1 := by omega
          obtain rfl : m = n + 1 := by omega
          go_wp2_with fail
          go_roundw
          case rel =>
            refine ⟨k + 1, by omega, by go_num, HR.out.1.ext_p (fun i j hi hj => ?_), HR.out.2⟩
            constructor
            · rintro ⟨h1, h2⟩; exact ⟨by omega, h2⟩
            · rintro ⟨h1, h2⟩; exact ⟨by omega, h2⟩
          case measure => simp [intOf]; omega
    · have hki1 : ¬ (k : Int) < (n : Int) + 1 := by omega
      obtain rfl : k = n + 1 := by omega
      go_wp2_with fail
      go_ret
      refine ⟨_, rfl, ⟨g, c, r, rfl, hcc, HR.out.1.ext_p (fun i j hi hj => ?_)⟩, HR.out.2⟩
      constructor
      · rintro ⟨h1, h2⟩; exact h2
      · intro h2; exact ⟨by omega, h2⟩
end Go.Proofs.YtnccgaanfjaimaaDoor

namespace Go.Proofs.YtnccgaanfjaimaaDoor
open Go.ChangeShapes Go.WideShapes Go.ChangeAt Go.RowKit
set_option linter.unusedVariables false
set_option linter.unusedSimpArgs false

mutual
/-- the labels of an expression, from the left -/
def X.ps : X → List ByteArray
  | .mk k l ks => if k = 1 then [l] else psL ks
def psL : List X → List ByteArray
  | [] => []
  | x :: xs => x.ps ++ psL xs
end
theorem X.ps_eq (x : X) : x.ps = if x.kind = 1 then [x.lab] else psL x.kids := by cases x; rw [X.ps]; rfl
theorem psL_nil : psL [] = [] := by rw [psL]
theorem psL_cons (x : X) (xs : List X) : psL (x :: xs) = x.ps ++ psL xs := by rw [psL]
/-- how many -/
def X.pn (x : X) : Nat := x.ps.length
def pnL (xs : List X) : Nat := (psL xs).length
theorem X.pn_eq (x : X) : x.pn = if x.kind = 1 then 1 else pnL x.kids := by unfold X.pn pnL; rw [X.ps_eq]; split <;> rfl
theorem pnL_nil : pnL [] = 0 := by simp [pnL, psL]
theorem pnL_cons (x : X) (xs : List X) : pnL (x :: xs) = x.pn + pnL xs := by simp [pnL, psL, X.pn]

mutual
/-- first ones, of an expression whose positions begin at a; of a row; of alternatives -/
def X.fst : X → Nat → Nat → Bool
  | .mk k _ ks, a, p => if k = 1 then decide (p = a) else if k = 2 then fstS ks a p else fstA ks a p
def fstS : List X → Nat → Nat → Bool
  | [], _, _ => false
  | x :: xs, a, p => X.fst x a p || (x.emp && fstS xs (a + x.pn) p)
def fstA : List X → Nat → Nat → Bool
  | [], _, _ => false
  | x :: xs, a, p => X.fst x a p || fstA xs (a + x.pn) p
end
mutual
/-- last ones -/
def X.lst : X → Nat → Nat → Bool
  | .mk k _ ks, a, p => if k = 1 then decide (p = a) else if k = 2 then lstS ks a p else lstA ks a p
def lstS : List X → Nat → Nat → Bool
  | [], _, _ => false
  | x :: xs, a, p => (allE xs && X.lst x a p) || lstS xs (a + x.pn) p
def lstA : List X → Nat → Nat → Bool
  | [], _, _ => false
  | x :: xs, a, p => X.lst x a p || lstA xs (a + x.pn) p
end
mutual
/-- q follows p -/
def X.fol : X → Nat → Nat → Nat → Bool
  | .mk k _ ks, a, p, q => if k = 1 then false else if k = 2 then folS ks a p q else folA ks a p q || (decide (k = 4 ∨ k = 5) && (lstA ks a p && fstA ks a q))
def folS : List X → Nat → Nat → Nat → Bool
  | [], _, _, _ => false
  | x :: xs, a, p, q => X.fol x a p q || folS xs (a + x.pn) p q || (x.lst a p && fstS xs (a + x.pn) q)
def folA : List X → Nat → Nat → Nat → Bool
  | [], _, _, _ => false
  | x :: xs, a, p, q => X.fol x a p q || folA xs (a + x.pn) p q
end
theorem X.fst_eq (x : X) (a p : Nat) : x.fst a p = if x.kind = 1 then decide (p = a) else if x.kind = 2 then fstS x.kids a p else fstA x.kids a p := by cases x; rw [X.fst]; rfl
theorem X.lst_eq (x : X) (a p : Nat) : x.lst a p = if x.kind = 1 then decide (p = a) else if x.kind = 2 then lstS x.kids a p else lstA x.kids a p := by cases x; rw [X.lst]; rfl
theorem X.fol_eq (x : X) (a p q : Nat) : x.fol a p q = if x.kind = 1 then false else if x.kind = 2 then folS x.kids a p q else folA x.kids a p q || (decide (x.kind = 4 ∨ x.kind = 5) && (lstA x.kids a p && fstA x.kids a q)) := by cases x; rw [X.fol]; rfl

/-- one lies in a part's range -/
def Inr (f : Nat → Bool) (a b : Nat) : Prop := ∀ p, f p = true → a ≤ p ∧ p < b
theorem fst_in : ∀ (x : X) (a : Nat), Inr (x.fst a) a (a + x.pn) := by
  intro x
  induction x using X.ind' with
  | h x ih =>
    have hS : ∀ ks : List X, (∀ y ∈ ks, ∀ a, Inr (y.fst a) a (a + y.pn)) → ∀ a, Inr (fstS ks a) a (a + pnL ks) := by
      intro ks
      induction ks with
      | nil => intro _ a p h; rw [fstS] at h; cases h
      | cons y ys ihy =>
        intro hy a p h
        rw [fstS, Bool.or_eq_true, Bool.and_eq_true] at h
        rw [pnL_cons]
        rcases h with h | ⟨_, h⟩
        · have := hy y (by simp) a p h; omega
        · have := ihy (fun z hz => hy z (by simp [hz])) _ p h; omega
    have hA : ∀ ks : List X, (∀ y ∈ ks, ∀ a, Inr (y.fst a) a (a + y.pn)) → ∀ a, Inr (fstA ks a) a (a + pnL ks) := by
      intro ks
      induction ks with
      | nil => intro _ a p h; rw [fstA] at h; cases h
      | cons y ys ihy =>
        intro hy a p h
        rw [fstA, Bool.or_eq_true] at h
        rw [pnL_cons]
        rcases h with h | h
        · have := hy y (by simp) a p h; omega
        · have := ihy (fun z hz => hy z (by simp [hz])) _ p h; omega
    intro a p h
    rw [X.fst_eq] at h
    rw [X.pn_eq]
    split at h
    · rename_i h1
      rw [if_pos h1]; simp at h; omega
    · rename_i h1
      rw [if_neg h1]
      split at h
      · exact hS _ ih a p h
      · exact hA _ ih a p h
theorem fstS_in (ks : List X) (a : Nat) : Inr (fstS ks a) a (a + pnL ks) := by
  have h := fst_in (.mk 2 ⟨#[]⟩ ks) a
  intro p hp
  have := h p (by rw [X.fst_eq]; exact hp)
  rw [X.pn_eq] at this
  exact this
theorem fstA_in (ks : List X) (a : Nat) : Inr (fstA ks a) a (a + pnL ks) := by
  have h := fst_in (.mk 3 ⟨#[]⟩ ks) a
  intro p hp
  have := h p (by rw [X.fst_eq]; exact hp)
  rw [X.pn_eq] at this
  exact this
theorem lst_in : ∀ (x : X) (a : Nat), Inr (x.lst a) a (a + x.pn) := by
  intro x
  induction x using X.ind' with
  | h x ih =>
    have hS : ∀ ks : List X, (∀ y ∈ ks, ∀ a, Inr (y.lst a) a (a + y.pn)) → ∀ a, Inr (lstS ks a) a (a + pnL ks) := by
      intro ks
      induction ks with
      | nil => intro _ a p h; rw [lstS] at h; cases h
      | cons y ys ihy =>
        intro hy a p h
        rw [lstS, Bool.or_eq_true, Bool.and_eq_true] at h
        rw [pnL_cons]
        rcases h with ⟨_, h⟩ | h
        · have := hy y (by simp) a p h; omega
        · have := ihy (fun z hz => hy z (by simp [hz])) _ p h; omega
    have hA : ∀ ks : List X, (∀ y ∈ ks, ∀ a, Inr (y.lst a) a (a + y.pn)) → ∀ a, Inr (lstA ks a) a (a + pnL ks) := by
      intro ks
      induction ks with
      | nil => intro _ a p h; rw [lstA] at h; cases h
      | cons y ys ihy =>
        intro hy a p h
        rw [lstA, Bool.or_eq_true] at h
        rw [pnL_cons]
        rcases h with h | h
        · have := hy y (by simp) a p h; omega
        · have := ihy (fun z hz => hy z (by simp [hz])) _ p h; omega
    intro a p h
    rw [X.lst_eq] at h
    rw [X.pn_eq]
    split at h
    · rename_i h1
      rw [if_pos h1]; simp at h; omega
    · rename_i h1
      rw [if_neg h1]
      split at h
      · exact hS _ ih a p h
      · exact hA _ ih a p h
theorem lstS_in (ks : List X) (a : Nat) : Inr (lstS ks a) a (a + pnL ks) := by
  have h := lst_in (.mk 2 ⟨#[]⟩ ks) a
  intro p hp
  have := h p (by rw [X.lst_eq]; exact hp)
  rw [X.pn_eq] at this
  exact this
theorem lstA_in (ks : List X) (a : Nat) : Inr (lstA ks a) a (a + pnL ks) := by
  have h := lst_in (.mk 3 ⟨#[]⟩ ks) a
  intro p hp
  have := h p (by rw [X.lst_eq]; exact hp)
  rw [X.pn_eq] at this
  exact this
/-- both ends lie in a part's range -/
def In2 (f : Nat → Nat → Bool) (a b : Nat) : Prop := ∀ p q, f p q = true → a ≤ p ∧ p < b ∧ a ≤ q ∧ q < b
theorem fol_in : ∀ (x : X) (a : Nat), In2 (x.fol a) a (a + x.pn) := by
  intro x
  induction x using X.ind' with
  | h x ih =>
    have hS : ∀ ks : List X, (∀ y ∈ ks, ∀ a, In2 (y.fol a) a (a + y.pn)) → ∀ a, In2 (folS ks a) a (a + pnL ks) := by
      intro ks
      induction ks with
      | nil => intro _ a p q h; rw [folS] at h; cases h
      | cons y ys ihy =>
        intro hy a p q h
        rw [folS, Bool.or_eq_true, Bool.or_eq_true, Bool.and_eq_true] at h
        rw [pnL_cons]
        rcases h with (h | h) | ⟨h, h'⟩
        · have := hy y (by simp) a p q h; omega
        · have := ihy (fun z hz => hy z (by simp [hz])) _ p q h; omega
        · have := lst_in y a p h; have := fstS_in ys _ q h'; omega
    have hA : ∀ ks : List X, (∀ y ∈ ks, ∀ a, In2 (y.fol a) a (a + y.pn)) → ∀ a, In2 (folA ks a) a (a + pnL ks) := by
      intro ks
      induction ks with
      | nil => intro _ a p q h; rw [folA] at h; cases h
      | cons y ys ihy =>
        intro hy a p q h
        rw [folA, Bool.or_eq_true] at h
        rw [pnL_cons]
        rcases h with h | h
        · have := hy y (by simp) a p q h; omega
        · have := ihy (fun z hz => hy z (by simp [hz])) _ p q h; omega
    intro a p q h
    rw [X.fol_eq] at h
    rw [X.pn_eq]
    split at h
    · cases h
    · rename_i h1
      rw [if_neg h1]
      split at h
      · exact hS _ ih a p q h
      · rw [Bool.or_eq_true, Bool.and_eq_true, Bool.and_eq_true] at h
        rcases h with h | ⟨_, h, h'⟩
        · exact hA _ ih a p q h
        · have := lstA_in _ _ p h; have := fstA_in _ _ q h'; omega
theorem folS_in (ks : List X) (a : Nat) : In2 (folS ks a) a (a + pnL ks) := by
  have h := fol_in (.mk 2 ⟨#[]⟩ ks) a
  intro p q hp
  have := h p q (by rw [X.fol_eq]; exact hp)
  rw [X.pn_eq] at this
  exact this
theorem folA_in (ks : List X) (a : Nat) : In2 (folA ks a) a (a + pnL ks) := by
  have h := fol_in (.mk 3 ⟨#[]⟩ ks) a
  intro p q hp
  have := h p q (by rw [X.fol_eq]; simp [X.kind, X.kids, hp])
  rw [X.pn_eq] at this
  exact this

/-- a walk from p to q over what follows; its word -/
inductive Rn (lb : Nat → ByteArray) (fo : Nat → Nat → Bool) : Nat → Wd → Nat → Prop where
  | one (p : Nat) : Rn lb fo p [lb p] p
  | cons (p q : Nat) (u : Wd) (r : Nat) (h : fo p q = true) (h1 : Rn lb fo q u r) : Rn lb fo p (lb p :: u) r
theorem Rn.ne {lb : Nat → ByteArray} {fo : Nat → Nat → Bool} {p q : Nat} {u : Wd} (h : Rn lb fo p u q) : u ≠ [] := by cases h <;> simp
theorem Rn.mono {lb : Nat → ByteArray} {f g : Nat → Nat → Bool} {p q : Nat} {u : Wd} (h : Rn lb f p u q) (hfg : ∀ a b, f a b = true → g a b = true) : Rn lb g p u q := by
  induction h with
  | one p => exact .one p
  | cons p q u r h h1 ih => exact .cons p q u r (hfg _ _ h) ih
theorem Rn.app {lb : Nat → ByteArray} {fo : Nat → Nat → Bool} {p q r s : Nat} {u v : Wd} (h : Rn lb fo p u q) (hq : fo q r = true) (hr : Rn lb fo r v s) : Rn lb fo p (u ++ v) s := by
  induction h with
  | one p => exact .cons p r v s hq hr
  | cons p q' u q h h1 ih => exact .cons p q' _ s h (ih hq)
/-- the words of walks from a first one to a last one -/
def Acc (lb : Nat → ByteArray) (f l : Nat → Bool) (fo : Nat → Nat → Bool) (u : Wd) : Prop := ∃ p q, f p = true ∧ l q = true ∧ Rn lb fo p u q
theorem Acc.ne {lb : Nat → ByteArray} {f l : Nat → Bool} {fo : Nat → Nat → Bool} {u : Wd} (h : Acc lb f l fo u) : u ≠ [] := by obtain ⟨p, q, _, _, h⟩ := h; exact h.ne

/-- two ranges, side by side: a walk of both -/
theorem Rn.two {lb : Nat → ByteArray} {l1 f2 : Nat → Bool} {fo g1 g2 : Nat → Nat → Bool} {a b c : Nat} (h1 : In2 g1 a b) (h2 : In2 g2 b c) (hl : Inr l1 a b) (hf : Inr f2 b c)
    (hfo : ∀ p q, fo p q = true ↔ g1 p q = true ∨ g2 p q = true ∨ (l1 p = true ∧ f2 q = true)) {p q : Nat} {u : Wd} (h : Rn lb fo p u q) :
    (a ≤ p → p < b → (q < b ∧ a ≤ q ∧ Rn lb g1 p u q) ∨ ∃ u1 u2 m m', u = u1 ++ u2 ∧ Rn lb g1 p u1 m ∧ l1 m = true ∧ f2 m' = true ∧ b ≤ q ∧ q < c ∧ Rn lb g2 m' u2 q) ∧ (b ≤ p → p < c → b ≤ q ∧ q < c ∧ Rn lb g2 p u q) := by
  induction h with
  | one p => exact ⟨fun h h' => .inl ⟨h', h, .one p⟩, fun h h' => ⟨h, h', .one p⟩⟩
  | cons p m u q h0 h3 ih =>
    rcases (hfo p m).1 h0 with h | h | ⟨h, h'⟩
    · have hx := h1 p m h
      refine ⟨fun _ _ => ?_, fun _ _ => by omega⟩
      rcases ih.1 (by omega) (by omega) with ⟨k1, k2, k3⟩ | ⟨u1, u2, m1, m2, rfl, k1, k2, k3, k4, k5, k6⟩
      · exact .inl ⟨k1, k2, .cons p m u q h k3⟩
      · exact .inr ⟨lb p :: u1, u2, m1, m2, rfl, .cons p m u1 m1 h k1, k2, k3, k4, k5, k6⟩
    · have hx := h2 p m h
      refine ⟨fun _ _ => by omega, fun _ _ => ?_⟩
      obtain ⟨k1, k2, k3⟩ := ih.2 (by omega) (by omega)
      exact ⟨k1, k2, .cons p m u q h k3⟩
    · have hx := hl p h
      have hy := hf m h'
      refine ⟨fun _ _ => ?_, fun _ _ => by omega⟩
      obtain ⟨k1, k2, k3⟩ := ih.2 (by omega) (by omega)
      exact .inr ⟨[lb p], u, p, m, rfl, .one p, h, h', k1, k2, k3⟩

/-- one behind the other -/
theorem acc_seq {lb : Nat → ByteArray} {f1 l1 f2 l2 f l : Nat → Bool} {g1 g2 fo : Nat → Nat → Bool} {e1 e2 : Bool} {a b c : Nat} (hf1 : Inr f1 a b) (hl1 : Inr l1 a b) (h1 : In2 g1 a b) (hf2 : Inr f2 b c) (hl2 : Inr l2 b c) (h2 : In2 g2 b c)
    (hf : ∀ p, f p = true ↔ f1 p = true ∨ (e1 = true ∧ f2 p = true)) (hl : ∀ p, l p = true ↔ (e2 = true ∧ l1 p = true) ∨ l2 p = true)
    (hfo : ∀ p q, fo p q = true ↔ g1 p q = true ∨ g2 p q = true ∨ (l1 p = true ∧ f2 q = true)) (u : Wd) :
    Acc lb f l fo u ↔ (e2 = true ∧ Acc lb f1 l1 g1 u) ∨ (e1 = true ∧ Acc lb f2 l2 g2 u) ∨ ∃ v w, u = v ++ w ∧ Acc lb f1 l1 g1 v ∧ Acc lb f2 l2 g2 w := by
  constructor
  · rintro ⟨p, q, hp, hq, h⟩
    have ht := h.two h1 h2 hl1 hf2 hfo
    rcases (hf p).1 hp with hp | ⟨he, hp⟩
    · have hx := hf1 p hp
      rcases ht.1 hx.1 hx.2 with ⟨k1, k2, k3⟩ | ⟨u1, u2, m, m', rfl, k1, k2, k3, k4, k5, k6⟩
      · rcases (hl q).1 hq with ⟨he, hq⟩ | hq
        · exact .inl ⟨he, p, q, hp, hq, k3⟩
        · have := hl2 q hq; omega
      · rcases (hl q).1 hq with ⟨he, hq⟩ | hq
        · have := hl1 q hq; omega
        · exact .inr (.inr ⟨u1, u2, rfl, ⟨p, m, hp, k2, k1⟩, m', q, k3, hq, k6⟩)
    · have hx := hf2 p hp
      obtain ⟨k1, k2, k3⟩ := ht.2 hx.1 hx.2
      rcases (hl q).1 hq with ⟨_, hq⟩ | hq
      · have := hl1 q hq; omega
      · exact .inr (.inl ⟨he, p, q, hp, hq, k3⟩)
  · rintro (⟨he, p, q, hp, hq, h⟩ | ⟨he, p, q, hp, hq, h⟩ | ⟨v, w, rfl, ⟨p, m, hp, hm, h⟩, m', q, hm', hq, h'⟩)
    · exact ⟨p, q, (hf p).2 (.inl hp), (hl q).2 (.inl ⟨he, hq⟩), h.mono fun a b hab => (hfo a b).2 (.inl hab)⟩
    · exact ⟨p, q, (hf p).2 (.inr ⟨he, hp⟩), (hl q).2 (.inr hq), h.mono fun a b hab => (hfo a b).2 (.inr (.inl hab))⟩
    · exact ⟨p, q, (hf p).2 (.inl hp), (hl q).2 (.inr hq), (h.mono fun a b hab => (hfo a b).2 (.inl hab)).app ((hfo _ _).2 (.inr (.inr ⟨hm, hm'⟩))) (h'.mono fun a b hab => (hfo a b).2 (.inr (.inl hab)))⟩

/-- one or the other -/
theorem acc_alt {lb : Nat → ByteArray} {f1 l1 f2 l2 f l : Nat → Bool} {g1 g2 fo : Nat → Nat → Bool} {a b c : Nat} (hf1 : Inr f1 a b) (hl1 : Inr l1 a b) (h1 : In2 g1 a b) (hf2 : Inr f2 b c) (hl2 : Inr l2 b c) (h2 : In2 g2 b c)
    (hf : ∀ p, f p = true ↔ f1 p = true ∨ f2 p = true) (hl : ∀ p, l p = true ↔ l1 p = true ∨ l2 p = true)
    (hfo : ∀ p q, fo p q = true ↔ g1 p q = true ∨ g2 p q = true) (u : Wd) :
    Acc lb f l fo u ↔ Acc lb f1 l1 g1 u ∨ Acc lb f2 l2 g2 u := by
  constructor
  · rintro ⟨p, q, hp, hq, h⟩
    have ht := h.two (l1 := fun _ => false) (f2 := fun _ => false) h1 h2 (fun _ h => by cases h) (fun _ h => by cases h) (fun p q => by rw [hfo]; simp)
    rcases (hf p).1 hp with hp | hp
    · have hx := hf1 p hp
      rcases ht.1 hx.1 hx.2 with ⟨k1, k2, k3⟩ | ⟨u1, u2, m, m', rfl, k1, k2, k3, k4, k5, k6⟩
      · rcases (hl q).1 hq with hq | hq
        · exact .inl ⟨p, q, hp, hq, k3⟩
        · have := hl2 q hq; omega
      · cases k2
    · have hx := hf2 p hp
      obtain ⟨k1, k2, k3⟩ := ht.2 hx.1 hx.2
      rcases (hl q).1 hq with hq | hq
      · have := hl1 q hq; omega
      · exact .inr ⟨p, q, hp, hq, k3⟩
  · rintro (⟨p, q, hp, hq, h⟩ | ⟨p, q, hp, hq, h⟩)
    · exact ⟨p, q, (hf p).2 (.inl hp), (hl q).2 (.inl hq), h.mono fun a b hab => (hfo a b).2 (.inl hab)⟩
    · exact ⟨p, q, (hf p).2 (.inr hp), (hl q).2 (.inr hq), h.mono fun a b hab => (hfo a b).2 (.inr hab)⟩

/-- more and more of one -/
theorem acc_plus {lb : Nat → ByteArray} {f l : Nat → Bool} {g fo : Nat → Nat → Bool} (hfo : ∀ p q, fo p q = true ↔ g p q = true ∨ (l p = true ∧ f q = true)) (u : Wd) :
    Acc lb f l fo u ↔ Pl (Acc lb f l g) u := by
  constructor
  · rintro ⟨p, q, hp, hq, h⟩
    have key : ∃ v m, Rn lb g p v m ∧ l m = true ∧ (u = v ∨ ∃ w, u = v ++ w ∧ Pl (Acc lb f l g) w) := by
      clear hp
      induction h with
      | one p => exact ⟨_, p, .one p, hq, .inl rfl⟩
      | cons p m u q h0 h3 ih =>
        obtain ⟨v, k, h1, h2, h4⟩ := ih hq
        rcases (hfo p m).1 h0 with h | ⟨h, h'⟩
        · refine ⟨lb p :: v, k, .cons p m v k h h1, h2, ?_⟩
          rcases h4 with rfl | ⟨w, rfl, h4⟩
          · exact .inl rfl
          · exact .inr ⟨w, rfl, h4⟩
        · refine ⟨[lb p], p, .one p, h, .inr ⟨u, rfl, ?_⟩⟩
          rcases h4 with rfl | ⟨w, rfl, h4⟩
          · exact .one _ ⟨m, k, h', h2, h1⟩
          · exact .cons ⟨m, k, h', h2, h1⟩ h4
    obtain ⟨v, m, h1, h2, h3⟩ := key
    rcases h3 with rfl | ⟨w, rfl, h3⟩
    · exact .one _ ⟨p, m, hp, h2, h1⟩
    · exact .cons ⟨p, m, hp, h2, h1⟩ h3
  · intro h
    induction h with
    | one p h =>
      obtain ⟨a, b, h1, h2, h3⟩ := h
      exact ⟨a, b, h1, h2, h3.mono fun x y hxy => (hfo x y).2 (.inl hxy)⟩
    | snoc p q h h1 ih =>
      obtain ⟨a, b, k1, k2, k3⟩ := h1
      obtain ⟨c, d, j1, j2, j3⟩ := ih
      exact ⟨c, b, j1, k2, j3.app ((hfo _ _).2 (.inr ⟨j2, k1⟩)) (k3.mono fun x y hxy => (hfo x y).2 (.inl hxy))⟩
/-- what the empty word adds, repeated -/
theorem pl_or {P Q : Wd → Prop} {e : Prop} (hPQ : ∀ u, P u ↔ (u = [] ∧ e) ∨ Q u) (hQ : ∀ u, Q u → u ≠ []) (u : Wd) : Pl P u ↔ (u = [] ∧ e) ∨ Pl Q u := by
  constructor
  · intro h
    induction h with
    | one p h =>
      rcases (hPQ p).1 h with h | h
      · exact .inl h
      · exact .inr (.one _ h)
    | snoc p q h h1 ih =>
      rcases (hPQ q).1 h1 with ⟨rfl, he⟩ | h1
      · rw [List.append_nil]; exact ih
      · rcases ih with ⟨rfl, he⟩ | ih
        · exact .inr (.one _ h1)
        · exact .inr (.snoc _ _ ih h1)
  · rintro (⟨rfl, he⟩ | h)
    · exact .one _ ((hPQ []).2 (.inl ⟨rfl, he⟩))
    · induction h with
      | one p h => exact .one _ ((hPQ p).2 (.inr h))
      | snoc p q h h1 ih => exact .snoc _ _ ih ((hPQ q).2 (.inr h1))

/-- the labels of positions from a on -/
def LbAt (lb : Nat → ByteArray) (a : Nat) (l : List ByteArray) : Prop := ∀ i (h : i < l.length), lb (a + i) = l[i]
theorem LbAt.left {lb : Nat → ByteArray} {a : Nat} {l l' : List ByteArray} (h : LbAt lb a (l ++ l')) : LbAt lb a l := fun i hi => by rw [h i (by simp; omega), List.getElem_append_left hi]
theorem LbAt.right {lb : Nat → ByteArray} {a : Nat} {l l' : List ByteArray} (h : LbAt lb a (l ++ l')) : LbAt lb (a + l.length) l' := fun i hi => by
  have := h (l.length + i) (by simp; omega)
  rw [← Nat.add_assoc] at this
  rw [this, List.getElem_append_right (by omega)]
  congr 1
  omega

/-- walks tell the words -/
def Walks (x : X) : Prop := ∀ (a : Nat) (lb : Nat → ByteArray), LbAt lb a x.ps → ∀ u, x.L u ↔ (u = [] ∧ x.emp = true) ∨ Acc lb (x.fst a) (x.lst a) (x.fol a) u
theorem walksS : ∀ (ks : List X), (∀ y ∈ ks, Walks y) → ∀ (a : Nat) (lb : Nat → ByteArray), LbAt lb a (psL ks) → ∀ u, LS ks u ↔ (u = [] ∧ allE ks = true) ∨ Acc lb (fstS ks a) (lstS ks a) (folS ks a) u
  | [], h, a, lb, hlb, u => by
    rw [LS_nil, allE]
    constructor
    · intro h; exact .inl ⟨h, rfl⟩
    · rintro (h | ⟨p, q, h, _⟩)
      · exact h.1
      · rw [fstS] at h; cases h
  | x :: xs, h, a, lb, hlb, u => by
    rw [psL_cons] at hlb
    have h1 := h x (by simp) a lb hlb.left
    have h2 := walksS xs (fun y hy => h y (by simp [hy])) (a + x.pn) lb hlb.right
    rw [LS_cons, acc_seq (fst_in x a) (lst_in x a) (fol_in x a) (fstS_in xs _) (lstS_in xs _) (folS_in xs _) (e1 := x.emp) (e2 := allE xs) (fun p => by rw [fstS, Bool.or_eq_true, Bool.and_eq_true]) (fun p => by rw [lstS, Bool.or_eq_true, Bool.and_eq_true])
      (fun p q => by rw [folS, Bool.or_eq_true, Bool.or_eq_true, Bool.and_eq_true, or_assoc])]
    rw [show allE (x :: xs) = (x.emp && allE xs) by rw [allE], Bool.and_eq_true]
    constructor
    · rintro ⟨p, q, rfl, hp, hq⟩
      rcases (h1 p).1 hp with ⟨rfl, he⟩ | hp
      · rcases (h2 q).1 hq with ⟨rfl, he'⟩ | hq
        · exact .inl ⟨rfl, he, he'⟩
        · exact .inr (.inr (.inl ⟨he, by simpa using hq⟩))
      · rcases (h2 q).1 hq with ⟨rfl, he'⟩ | hq
        · exact .inr (.inl ⟨he', by simpa using hp⟩)
        · exact .inr (.inr (.inr ⟨p, q, rfl, hp, hq⟩))
    · rintro (⟨rfl, he, he'⟩ | ⟨he, hu⟩ | ⟨he, hu⟩ | ⟨p, q, rfl, hp, hq⟩)
      · exact ⟨[], [], rfl, (h1 []).2 (.inl ⟨rfl, he⟩), (h2 []).2 (.inl ⟨rfl, he'⟩)⟩
      · exact ⟨u, [], by simp, (h1 u).2 (.inr hu), (h2 []).2 (.inl ⟨rfl, he⟩)⟩
      · exact ⟨[], u, by simp, (h1 []).2 (.inl ⟨rfl, he⟩), (h2 u).2 (.inr hu)⟩
      · exact ⟨p, q, rfl, (h1 p).2 (.inr hp), (h2 q).2 (.inr hq)⟩
theorem walksA : ∀ (ks : List X), (∀ y ∈ ks, Walks y) → ∀ (a : Nat) (lb : Nat → ByteArray), LbAt lb a (psL ks) → ∀ u, LA ks u ↔ (u = [] ∧ anyE ks = true) ∨ Acc lb (fstA ks a) (lstA ks a) (folA ks a) u
  | [], h, a, lb, hlb, u => by
    rw [LA_nil, anyE]
    constructor
    · intro h; exact h.elim
    · rintro (h | ⟨p, q, h, _⟩)
      · cases h.2
      · rw [fstA] at h; cases h
  | x :: xs, h, a, lb, hlb, u => by
    rw [psL_cons] at hlb
    have h1 := h x (by simp) a lb hlb.left
    have h2 := walksA xs (fun y hy => h y (by simp [hy])) (a + x.pn) lb hlb.right
    rw [LA_cons, acc_alt (fst_in x a) (lst_in x a) (fol_in x a) (fstA_in xs _) (lstA_in xs _) (folA_in xs _) (fun p => by rw [fstA, Bool.or_eq_true]) (fun p => by rw [lstA, Bool.or_eq_true])
      (fun p q => by rw [folA, Bool.or_eq_true])]
    rw [show anyE (x :: xs) = (x.emp || anyE xs) by rw [anyE], Bool.or_eq_true, h1 u, h2 u]
    constructor
    · rintro ((⟨h, h'⟩ | h) | (⟨h, h'⟩ | h))
      · exact .inl ⟨h, .inl h'⟩
      · exact .inr (.inl h)
      · exact .inl ⟨h, .inr h'⟩
      · exact .inr (.inr h)
    · rintro (⟨h, h' | h'⟩ | h | h)
      · exact .inl (.inl ⟨h, h'⟩)
      · exact .inr (.inl ⟨h, h'⟩)
      · exact .inl (.inr h)
      · exact .inr (.inr h)
theorem X.emp_eq (x : X) : x.emp = if x.kind = 4 ∨ x.kind = 6 then true else if x.kind = 3 then anyE x.kids else if x.kind = 2 ∨ x.kind = 5 then allE x.kids else false := by cases x; rw [X.emp]; rfl

/-- of what is good -/
theorem walks_any : ∀ x : X, x.good → Walks x := by
  intro x
  induction x using X.ind' with
  | h x ih =>
    intro hg
    have ih' : ∀ y ∈ x.kids, Walks y := fun y hy => ih y hy (hg.kids y hy)
    have hf := hg.fit
    intro a lb hlb u
    rw [X.ps_eq] at hlb
    have e1 : x.fst a = fun p => if x.kind = 1 then decide (p = a) else if x.kind = 2 then fstS x.kids a p else fstA x.kids a p := funext fun p => X.fst_eq x a p
    have e2 : x.lst a = fun p => if x.kind = 1 then decide (p = a) else if x.kind = 2 then lstS x.kids a p else lstA x.kids a p := funext fun p => X.lst_eq x a p
    have e3 : x.fol a = fun p q => if x.kind = 1 then false else if x.kind = 2 then folS x.kids a p q else folA x.kids a p q || (decide (x.kind = 4 ∨ x.kind = 5) && (lstA x.kids a p && fstA x.kids a q)) := funext fun p => funext fun q => X.fol_eq x a p q
    rw [X.L_eq, X.emp_eq, e1, e2, e3]
    have hone : x.kind = 4 ∨ x.kind = 5 ∨ x.kind = 6 → ∃ y, x.kids = [y] := by
      intro h
      unfold X.fits fitB at hf
      rcases h with h | h | h <;> simp [h] at hf <;> exact List.length_eq_one_iff.1 hf.2
    have hpl := fun (hk : LbAt lb a (psL x.kids)) => walksA x.kids ih' a lb hk
    rcases good_kind hg with h | h | h | h
    · simp only [h, if_true] at hlb ⊢
      simp only [show ¬((1 : Int) = 4 ∨ (1 : Int) = 6) by decide, show ¬((1 : Int) = 3) by decide, show ¬((1 : Int) = 2 ∨ (1 : Int) = 5) by decide, if_false]
      have hl0 : lb a = x.lab := by simpa using hlb 0 (by simp)
      constructor
      · rintro rfl
        exact .inr ⟨a, a, by simp, by simp, by rw [← hl0]; exact .one a⟩
      · rintro (⟨_, h⟩ | ⟨p, q, hp, hq, hr⟩)
        · cases h
        · simp at hp hq
          subst hp
          cases hr with
          | one => rw [hl0]
          | cons p m u q h0 h1 => cases h0
    · simp only [h] at hlb ⊢
      simp only [show ¬((2 : Int) = 1) by decide, show ¬((2 : Int) = 4 ∨ (2 : Int) = 6) by decide, show ¬((2 : Int) = 3) by decide, show ((2 : Int) = 2 ∨ (2 : Int) = 5) by decide, if_false, if_true] at hlb ⊢
      exact walksS x.kids ih' a lb hlb u
    · rcases h with h | h
      · simp only [h] at hlb ⊢
        simp only [show ¬((3 : Int) = 1) by decide, show ¬((3 : Int) = 2) by decide, show ¬((3 : Int) = 4 ∨ (3 : Int) = 6) by decide, show ¬((3 : Int) = 4 ∨ (3 : Int) = 5) by decide, if_false, if_true, decide_false, Bool.false_and, Bool.or_false] at hlb ⊢
        exact walksA x.kids ih' a lb hlb u
      · obtain ⟨y, hy⟩ := hone (by omega)
        simp only [h] at hlb ⊢
        simp only [show ¬((6 : Int) = 1) by decide, show ¬((6 : Int) = 2) by decide, show ¬((6 : Int) = 3) by decide, show ((6 : Int) = 4 ∨ (6 : Int) = 6) by decide, show ¬((6 : Int) = 4 ∨ (6 : Int) = 5) by decide, if_false, if_true, decide_false, Bool.false_and, Bool.or_false] at hlb ⊢
        rw [hpl hlb u]
        constructor
        · rintro (h | ⟨h, _⟩ | h)
          · exact .inl ⟨h, rfl⟩
          · exact .inl ⟨h, rfl⟩
          · exact .inr h
        · rintro (⟨h, _⟩ | h)
          · exact .inl h
          · exact .inr (.inr h)
    · rcases h with h | h
      · simp only [h] at hlb ⊢
        simp only [show ¬((4 : Int) = 1) by decide, show ¬((4 : Int) = 2) by decide, show ¬((4 : Int) = 3) by decide, show ¬((4 : Int) = 6) by decide, show ((4 : Int) = 4 ∨ (4 : Int) = 6) by decide, show ((4 : Int) = 4 ∨ (4 : Int) = 5) by decide, if_false, if_true, decide_true, Bool.true_and] at hlb ⊢
        rw [acc_plus (g := folA x.kids a) (fun p q => by simp [Bool.or_eq_true, Bool.and_eq_true]), pl_or (hpl hlb) (fun u h => h.ne)]
        constructor
        · rintro (h | ⟨h, _⟩ | h)
          · exact .inl ⟨h, rfl⟩
          · exact .inl ⟨h, rfl⟩
          · exact .inr h
        · rintro (⟨h, _⟩ | h)
          · exact .inl h
          · exact .inr (.inr h)
      · obtain ⟨y, hy⟩ := hone (by omega)
        simp only [h] at hlb ⊢
        simp only [show ¬((5 : Int) = 1) by decide, show ¬((5 : Int) = 2) by decide, show ¬((5 : Int) = 3) by decide, show ¬((5 : Int) = 6) by decide, show ¬((5 : Int) = 4) by decide, show ¬((5 : Int) = 4 ∨ (5 : Int) = 6) by decide, show ((5 : Int) = 2 ∨ (5 : Int) = 5) by decide, show ((5 : Int) = 4 ∨ (5 : Int) = 5) by decide, if_false, if_true, decide_true, Bool.true_and] at hlb ⊢
        rw [acc_plus (g := folA x.kids a) (fun p q => by simp [Bool.or_eq_true, Bool.and_eq_true]), pl_or (hpl hlb) (fun u h => h.ne)]
        rw [show anyE x.kids = allE x.kids by rw [hy, anyE, anyE, allE, allE]; simp]
        simp only [false_or, or_true, if_true, if_false, or_self]
end Go.Proofs.YtnccgaanfjaimaaDoor

namespace Go.Proofs.YtnccgaanfjaimaaDoor
open Go.ChangeShapes Go.WideShapes Go.ChangeAt Go.RowKit
set_option linter.unusedVariables false
set_option linter.unusedSimpArgs false
/-- labels, the begin's ahead; what follows; first ones and last ones -/
structure NS where
  labs : List ByteArray
  fol : Nat → Nat
mutual
def addX : X → NS → NS × Nat × Nat
  | .mk k l ks, s => if k = 1 then (⟨s.labs ++ [l], s.fol⟩, 2 ^ s.labs.length, 2 ^ s.labs.length) else if k = 2 then addR ks s 0 0 true else
    if k = 4 ∨ k = 5 then (⟨(addA ks s 0 0).1.labs, lnk (addA ks s 0 0).1.fol (addA ks s 0 0).2.2 (addA ks s 0 0).2.1⟩, (addA ks s 0 0).2) else addA ks s 0 0
def addR : List X → NS → Nat → Nat → Bool → NS × Nat × Nat
  | [], s, F, L, _ => (s, F, L)
  | x :: xs, s, F, L, a => addR xs ⟨(addX x s).1.labs, lnk (addX x s).1.fol L (addX x s).2.1⟩ (if a then F ||| (addX x s).2.1 else F) ((if x.emp then L else 0) ||| (addX x s).2.2) (a && x.emp)
def addA : List X → NS → Nat → Nat → NS × Nat × Nat
  | [], s, F, L => (s, F, L)
  | x :: xs, s, F, L => addA xs (addX x s).1 (F ||| (addX x s).2.1) (L ||| (addX x s).2.2)
end
theorem addX_eq (x : X) (s : NS) : addX x s = if x.kind = 1 then (⟨s.labs ++ [x.lab], s.fol⟩, 2 ^ s.labs.length, 2 ^ s.labs.length) else if x.kind = 2 then addR x.kids s 0 0 true else
    if x.kind = 4 ∨ x.kind = 5 then (⟨(addA x.kids s 0 0).1.labs, lnk (addA x.kids s 0 0).1.fol (addA x.kids s 0 0).2.2 (addA x.kids s 0 0).2.1⟩, (addA x.kids s 0 0).2) else addA x.kids s 0 0 := by cases x; rw [addX]; rfl
theorem addR_nil (s : NS) (F L : Nat) (a : Bool) : addR [] s F L a = (s, F, L) := by rw [addR]
theorem addR_cons (x : X) (xs : List X) (s : NS) (F L : Nat) (a : Bool) : addR (x :: xs) s F L a = addR xs ⟨(addX x s).1.labs, lnk (addX x s).1.fol L (addX x s).2.1⟩ (if a then F ||| (addX x s).2.1 else F) ((if x.emp then L else 0) ||| (addX x s).2.2) (a && x.emp) := by rw [addR]
theorem addA_nil (s : NS) (F L : Nat) : addA [] s F L = (s, F, L) := by rw [addA]
theorem addA_cons (x : X) (xs : List X) (s : NS) (F L : Nat) : addA (x :: xs) s F L = addA xs (addX x s).1 (F ||| (addX x s).2.1) (L ||| (addX x s).2.2) := by rw [addA]

/-- what is added is what the table tells -/
def AddsX (x : X) : Prop := ∀ s : NS, (addX x s).1.labs = s.labs ++ x.ps ∧ (∀ p, (addX x s).2.1.testBit p = x.fst s.labs.length p) ∧ (∀ p, (addX x s).2.2.testBit p = x.lst s.labs.length p) ∧
  (∀ p q, ((addX x s).1.fol p).testBit q = ((s.fol p).testBit q || x.fol s.labs.length p q))
theorem addsR : ∀ (ks : List X), (∀ y ∈ ks, AddsX y) → ∀ (s : NS) (F L : Nat) (a : Bool), (addR ks s F L a).1.labs = s.labs ++ psL ks ∧ (∀ p, (addR ks s F L a).2.1.testBit p = (F.testBit p || (a && fstS ks s.labs.length p))) ∧
    (∀ p, (addR ks s F L a).2.2.testBit p = ((allE ks && L.testBit p) || lstS ks s.labs.length p)) ∧
    (∀ p q, ((addR ks s F L a).1.fol p).testBit q = ((s.fol p).testBit q || folS ks s.labs.length p q || (L.testBit p && fstS ks s.labs.length q)))
  | [], h, s, F, L, a => by
    rw [addR_nil]
    refine ⟨by rw [psL_nil, List.append_nil], fun p => by rw [fstS]; simp, fun p => by rw [lstS, allE]; simp, fun p q => by rw [folS, fstS]; simp⟩
  | x :: xs, h, s, F, L, a => by
    obtain ⟨h1, h2, h3, h4⟩ := h x (by simp) s
    obtain ⟨k1, k2, k3, k4⟩ := addsR xs (fun y hy => h y (by simp [hy])) ⟨(addX x s).1.labs, lnk (addX x s).1.fol L (addX x s).2.1⟩ (if a then F ||| (addX x s).2.1 else F) ((if x.emp then L else 0) ||| (addX x s).2.2) (a && x.emp)
    have hl : (addX x s).1.labs.length = s.labs.length + x.pn := by rw [h1, List.length_append]; rfl
    simp only [hl] at k1 k2 k3 k4
    rw [addR_cons]
    refine ⟨by rw [k1, h1, psL_cons, List.append_assoc], fun p => ?_, fun p => ?_, fun p q => ?_⟩
    · rw [k2, fstS]
      cases a <;> simp [Nat.testBit_or, h2, Bool.or_assoc]
    · rw [k3, lstS, Nat.testBit_or, h3, show allE (x :: xs) = (x.emp && allE xs) by rw [allE]]
      cases x.emp <;> cases allE xs <;> simp [Bool.or_assoc]
    · have hL : (if x.emp = true then L else 0).testBit p = (x.emp && L.testBit p) := by cases x.emp <;> simp
      rw [k4, lnk_bit, h4, h2, Nat.testBit_or, h3, folS, fstS, hL]
      cases x.emp <;> cases (s.fol p).testBit q <;> cases x.fol s.labs.length p q <;> cases L.testBit p <;> cases folS xs (s.labs.length + x.pn) p q <;> cases x.lst s.labs.length p <;> cases fstS xs (s.labs.length + x.pn) q <;> cases x.fst s.labs.length q <;> rfl
theorem addsA : ∀ (ks : List X), (∀ y ∈ ks, AddsX y) → ∀ (s : NS) (F L : Nat), (addA ks s F L).1.labs = s.labs ++ psL ks ∧ (∀ p, (addA ks s F L).2.1.testBit p = (F.testBit p || fstA ks s.labs.length p)) ∧
    (∀ p, (addA ks s F L).2.2.testBit p = (L.testBit p || lstA ks s.labs.length p)) ∧
    (∀ p q, ((addA ks s F L).1.fol p).testBit q = ((s.fol p).testBit q || folA ks s.labs.length p q))
  | [], h, s, F, L => by
    rw [addA_nil]
    refine ⟨by rw [psL_nil, List.append_nil], fun p => by rw [fstA]; simp, fun p => by rw [lstA]; simp, fun p q => by rw [folA]; simp⟩
  | x :: xs, h, s, F, L => by
    obtain ⟨h1, h2, h3, h4⟩ := h x (by simp) s
    obtain ⟨k1, k2, k3, k4⟩ := addsA xs (fun y hy => h y (by simp [hy])) (addX x s).1 (F ||| (addX x s).2.1) (L ||| (addX x s).2.2)
    have hl : (addX x s).1.labs.length = s.labs.length + x.pn := by rw [h1, List.length_append]; rfl
    simp only [hl] at k1 k2 k3 k4
    rw [addA_cons]
    refine ⟨by rw [k1, h1, psL_cons, List.append_assoc], fun p => by rw [k2, fstA, Nat.testBit_or, h2, Bool.or_assoc], fun p => by rw [k3, lstA, Nat.testBit_or, h3, Bool.or_assoc], fun p q => by rw [k4, folA, h4, Bool.or_assoc]⟩
theorem adds_any : ∀ x : X, AddsX x := by
  intro x
  induction x using X.ind' with
  | h x ih =>
    intro s
    rw [addX_eq, X.ps_eq]
    have e1 : ∀ p, x.fst s.labs.length p = if x.kind = 1 then decide (p = s.labs.length) else if x.kind = 2 then fstS x.kids s.labs.length p else fstA x.kids s.labs.length p := fun p => X.fst_eq x _ p
    have e2 : ∀ p, x.lst s.labs.length p = if x.kind = 1 then decide (p = s.labs.length) else if x.kind = 2 then lstS x.kids s.labs.length p else lstA x.kids s.labs.length p := fun p => X.lst_eq x _ p
    have e3 := fun p q => X.fol_eq x s.labs.length p q
    by_cases k1 : x.kind = 1
    · simp only [k1, if_true] at e1 e2 e3 ⊢
      refine ⟨trivial, fun p => ?_, fun p => ?_, fun p q => by rw [e3, Bool.or_false]⟩
      · rw [e1, Nat.testBit_two_pow]; exact decide_eq_decide.2 ⟨Eq.symm, Eq.symm⟩
      · rw [e2, Nat.testBit_two_pow]; exact decide_eq_decide.2 ⟨Eq.symm, Eq.symm⟩
    · by_cases k2 : x.kind = 2
      · obtain ⟨a1, a2, a3, a4⟩ := addsR x.kids ih s 0 0 true
        simp only [k1, k2, if_true, if_false] at e1 e2 e3 ⊢
        simp only [show ¬((2 : Int) = 1) by decide, if_false] at e1 e2 e3 ⊢
        exact ⟨a1, fun p => by rw [a2, e1]; simp, fun p => by rw [a3, e2]; simp, fun p q => by rw [a4, e3]; simp⟩
      · obtain ⟨a1, a2, a3, a4⟩ := addsA x.kids ih s 0 0
        simp only [k1, k2, if_false] at e1 e2 e3 ⊢
        have a2' : ∀ p, (addA x.kids s 0 0).2.1.testBit p = fstA x.kids s.labs.length p := fun p => by rw [a2]; simp
        have a3' : ∀ p, (addA x.kids s 0 0).2.2.testBit p = lstA x.kids s.labs.length p := fun p => by rw [a3]; simp
        by_cases k4 : x.kind = 4 ∨ x.kind = 5
        · simp only [k4, if_true, decide_true, Bool.true_and] at e3 ⊢
          exact ⟨a1, fun p => by rw [a2', e1], fun p => by rw [a3', e2], fun p q => by rw [lnk_bit, a4, e3, a2', a3', Bool.or_assoc]⟩
        · simp only [k4, if_false, decide_false, Bool.false_and, Bool.or_false] at e3 ⊢
          exact ⟨a1, fun p => by rw [a2', e1], fun p => by rw [a3', e2], fun p q => by rw [a4, e3]⟩

/-- the sets stay small -/
def Bd (s : NS) : Prop := ∀ p, s.fol p < 2 ^ s.labs.length
theorem addX_bd (x : X) {s : NS} (h : Bd s) : Bd (addX x s).1 ∧ (addX x s).2.1 < 2 ^ (addX x s).1.labs.length ∧ (addX x s).2.2 < 2 ^ (addX x s).1.labs.length ∧ (addX x s).1.labs.length = s.labs.length + x.pn := by
  obtain ⟨h1, h2, h3, h4⟩ := adds_any x s
  have hl : (addX x s).1.labs.length = s.labs.length + x.pn := by rw [h1, List.length_append]; rfl
  rw [Bd, hl]
  refine ⟨fun p => lt_of_bits fun i hi => ?_, lt_of_bits fun i hi => ?_, lt_of_bits fun i hi => ?_, rfl⟩
  · rw [h4, bit_false (h p) (by omega), Bool.false_or]
    cases hf : x.fol s.labs.length p i with
    | false => rfl
    | true => have := fol_in x _ p i hf; omega
  · rw [h2]
    cases hf : x.fst s.labs.length i with
    | false => rfl
    | true => have := fst_in x _ i hf; omega
  · rw [h3]
    cases hf : x.lst s.labs.length i with
    | false => rfl
    | true => have := lst_in x _ i hf; omega

/-- the whole: what New makes -/
def nf (x : X) : NS × Nat × Nat := addX x ⟨[⟨#[]⟩], fun _ => 0⟩
def nfF (x : X) : Nat → Nat := lnk (nf x).1.fol 1 (nf x).2.1
def nfL (x : X) : Nat := (nf x).2.2
theorem nf_labs (x : X) : (nf x).1.labs = ⟨#[]⟩ :: x.ps := (adds_any x _).1
theorem nfF_zero (x : X) (q : Nat) : (nfF x 0).testBit q = x.fst 1 q := by
  obtain ⟨h1, h2, h3, h4⟩ := adds_any x ⟨[⟨#[]⟩], fun _ => 0⟩
  unfold nfF nf
  rw [lnk_bit, h4, h2]
  simp only [Nat.zero_testBit, Bool.false_or, List.length_singleton]
  cases hf : x.fol 1 0 q with
  | false => simp
  | true => have := fol_in x 1 0 q hf; omega
theorem nfF_pos (x : X) {p : Nat} (hp : 0 < p) (q : Nat) : (nfF x p).testBit q = x.fol 1 p q := by
  obtain ⟨h1, h2, h3, h4⟩ := adds_any x ⟨[⟨#[]⟩], fun _ => 0⟩
  unfold nfF nf
  rw [lnk_bit, h4]
  simp only [Nat.zero_testBit, Bool.false_or, List.length_singleton]
  have : Nat.testBit 1 p = false := by
    rw [show (1 : Nat) = 2 ^ 0 by rfl, Nat.testBit_two_pow]; simp; omega
  rw [this]
  simp
theorem nfL_bit (x : X) (q : Nat) : (nfL x).testBit q = x.lst 1 q := (adds_any x ⟨[⟨#[]⟩], fun _ => 0⟩).2.2.1 q
theorem nf_bd (x : X) : (∀ p, nfF x p < 2 ^ (1 + x.pn)) ∧ nfL x < 2 ^ (1 + x.pn) := by
  obtain ⟨h1, h2, h3, h4⟩ := addX_bd x (s := ⟨[⟨#[]⟩], fun _ => 0⟩) (fun p => by simp)
  rw [Bd] at h1
  rw [h4] at h1 h2 h3
  exact ⟨fun p => lnk_lt h1 h2 p, h3⟩
/-- there are fewer positions than parts -/
theorem pn_sz : ∀ x : X, x.pn ≤ x.sz := by
  intro x
  induction x using X.ind' with
  | h x ih =>
    have hL : ∀ ks : List X, (∀ y ∈ ks, y.pn ≤ y.sz) → pnL ks ≤ szL ks := by
      intro ks
      induction ks with
      | nil => intro _; rw [pnL_nil]; omega
      | cons y ys ihy => intro h; rw [pnL_cons, szL_cons]; have := h y (by simp); have := ihy (fun z hz => h z (by simp [hz])); omega
    rw [X.pn_eq, X.sz_eq]
    have := hL x.kids ih
    split <;> omega
theorem pn_szL (ks : List X) : pnL ks ≤ szL ks := by
  induction ks with
  | nil => rw [pnL_nil]; omega
  | cons y ys ih => rw [pnL_cons, szL_cons]; have := pn_sz y; omega

/-- a step: where a label leads to from some places -/
def behN (fo : Nat → Nat) (fr : Nat) : Nat := orL ((els fr).map fo)
def toN (labs : List ByteArray) (b : Nat) (l : ByteArray) : Nat := orL (((els b).filter fun p => decide (labs[p]?.getD ⟨#[]⟩ = l)).map (2 ^ ·))
def stepN (labs : List ByteArray) (fo : Nat → Nat) (fr : Nat) (l : ByteArray) : Nat := toN labs (behN fo fr) l
theorem behN_bit (fo : Nat → Nat) (fr q : Nat) (h : fr < 2 ^ 32) : (behN fo fr).testBit q = true ↔ ∃ p, fr.testBit p = true ∧ (fo p).testBit q = true := by
  unfold behN
  rw [orL_bit, List.any_map, List.any_eq_true]
  constructor
  · rintro ⟨p, hp, hq⟩; exact ⟨p, (mem_els.1 hp).2, hq⟩
  · rintro ⟨p, hp, hq⟩
    refine ⟨p, mem_els.2 ⟨Nat.lt_of_not_le fun hge => ?_, hp⟩, hq⟩
    rw [bit_false h hge] at hp; cases hp
theorem behN_lt {fo : Nat → Nat} {n : Nat} (h : ∀ p, fo p < 2 ^ n) (fr : Nat) : behN fo fr < 2 ^ n := orL_lt fun s hs => by
  obtain ⟨p, _, rfl⟩ := List.mem_map.1 hs
  exact h p
theorem toN_bit (labs : List ByteArray) (b : Nat) (l : ByteArray) (q : Nat) (h : b < 2 ^ 32) : (toN labs b l).testBit q = true ↔ b.testBit q = true ∧ labs[q]?.getD ⟨#[]⟩ = l := by
  unfold toN
  rw [orL_bit, List.any_map, List.any_eq_true]
  simp only [List.mem_filter, decide_eq_true_eq, Function.comp, Nat.testBit_two_pow]
  constructor
  · rintro ⟨p, ⟨hp, hl⟩, rfl⟩; exact ⟨(mem_els.1 hp).2, hl⟩
  · rintro ⟨hq, hl⟩
    refine ⟨q, ⟨mem_els.2 ⟨Nat.lt_of_not_le fun hge => ?_, hq⟩, hl⟩, rfl⟩
    rw [bit_false h hge] at hq; cases hq
theorem toN_lt (labs : List ByteArray) {b n : Nat} (h : b < 2 ^ n) (l : ByteArray) : toN labs b l < 2 ^ n := orL_lt fun s hs => by
  obtain ⟨p, hp, rfl⟩ := List.mem_map.1 hs
  have := (mem_els.1 (List.mem_filter.1 hp).1).2
  refine Nat.pow_lt_pow_right (by decide) (Nat.lt_of_not_le fun hge => ?_)
  rw [bit_false h hge] at this; cases this
theorem stepN_bit {labs : List ByteArray} {fo : Nat → Nat} {fr : Nat} {l : ByteArray} {n : Nat} (hn : n ≤ 32) (hf : ∀ p, fo p < 2 ^ n) (hr : fr < 2 ^ 32) (q : Nat) : (stepN labs fo fr l).testBit q = true ↔ (∃ p, fr.testBit p = true ∧ (fo p).testBit q = true) ∧ labs[q]?.getD ⟨#[]⟩ = l := by
  unfold stepN
  rw [toN_bit _ _ _ _ (Nat.lt_of_lt_of_le (behN_lt hf fr) (Nat.pow_le_pow_right (by decide) hn)), behN_bit _ _ _ hr]
theorem stepN_lt (labs : List ByteArray) {fo : Nat → Nat} {n : Nat} (hf : ∀ p, fo p < 2 ^ n) (fr : Nat) (l : ByteArray) : stepN labs fo fr l < 2 ^ n := toN_lt _ (behN_lt hf fr) l
/-- many steps -/
def stepsN (labs : List ByteArray) (fo : Nat → Nat) (fr : Nat) (u : Wd) : Nat := u.foldl (stepN labs fo) fr
theorem stepsN_lt (labs : List ByteArray) {fo : Nat → Nat} {n : Nat} (hf : ∀ p, fo p < 2 ^ n) : ∀ (u : Wd) (fr : Nat), fr < 2 ^ n → stepsN labs fo fr u < 2 ^ n
  | [], fr, h => h
  | l :: u, fr, h => stepsN_lt labs hf u _ (stepN_lt labs hf fr l)
theorem stepsN_snoc (labs : List ByteArray) (fo : Nat → Nat) (fr : Nat) (u : Wd) (l : ByteArray) : stepsN labs fo fr (u ++ [l]) = stepN labs fo (stepsN labs fo fr u) l := by simp [stepsN]
theorem stepsN_bit {labs : List ByteArray} {fo : Nat → Nat} {n : Nat} (hn : n ≤ 32) (hf : ∀ p, fo p < 2 ^ n) : ∀ (u : Wd), u ≠ [] → ∀ (fr : Nat), fr < 2 ^ n → ∀ q, (stepsN labs fo fr u).testBit q = true ↔ ∃ p m, fr.testBit p = true ∧ (fo p).testBit m = true ∧ Rn (fun i => labs[i]?.getD ⟨#[]⟩) (fun a b => (fo a).testBit b) m u q
  | [], h, _, _, _ => absurd rfl h
  | [l], _, fr, hr, q => by
    have hr' : fr < 2 ^ 32 := Nat.lt_of_lt_of_le hr (Nat.pow_le_pow_right (by decide) hn)
    show (stepN labs fo fr l).testBit q = true ↔ _
    rw [stepN_bit hn hf hr']
    constructor
    · rintro ⟨⟨p, hp, hq⟩, hl⟩
      exact ⟨p, q, hp, hq, by rw [← hl]; exact .one q⟩
    · rintro ⟨p, m, hp, hm, hr⟩
      generalize hu : [l] = u at hr
      cases hr with
      | one => injection hu with hu _; exact ⟨⟨p, hp, hm⟩, hu.symm⟩
      | cons m m' u' q h h1 => injection hu with _ hu; exact absurd hu.symm h1.ne
  | l :: l' :: u, _, fr, hr, q => by
    have hr' : fr < 2 ^ 32 := Nat.lt_of_lt_of_le hr (Nat.pow_le_pow_right (by decide) hn)
    have ih := stepsN_bit (labs := labs) hn hf (l' :: u) (by simp) (stepN labs fo fr l) (stepN_lt labs hf fr l) q
    show (stepsN labs fo (stepN labs fo fr l) (l' :: u)).testBit q = true ↔ _
    rw [ih]
    constructor
    · rintro ⟨p, m, hp, hm, hr⟩
      obtain ⟨⟨p0, h0, h1⟩, hl⟩ := (stepN_bit hn hf hr' p).1 hp
      exact ⟨p0, p, h0, h1, by rw [← hl]; exact .cons p m _ q hm hr⟩
    · rintro ⟨p, m, hp, hm, hr⟩
      generalize hu : l :: l' :: u = w at hr
      cases hr with
      | one => injection hu with _ hu; cases hu
      | cons m m' u' q h h1 =>
        injection hu with hl hu
        subst hu
        exact ⟨m, m', (stepN_bit hn hf hr' m).2 ⟨⟨p, hp, hm⟩, hl.symm⟩, h, h1⟩

/-- is a word taken? -/
def takesN (x : X) (u : Wd) : Bool := if u = [] then x.emp else decide (stepsN (nf x).1.labs (nfF x) 1 u &&& nfL x ≠ 0)
theorem and_ne_zero (a b : Nat) : a &&& b ≠ 0 ↔ ∃ q, a.testBit q = true ∧ b.testBit q = true := by
  constructor
  · intro h
    refine Classical.byContradiction fun hn => h (Nat.eq_of_testBit_eq fun i => ?_)
    rw [Nat.testBit_and, Nat.zero_testBit]
    cases ha : a.testBit i with
    | false => rfl
    | true =>
      cases hb : b.testBit i with
      | false => rfl
      | true => exact absurd ⟨i, ha, hb⟩ hn
  · rintro ⟨q, ha, hb⟩ h
    have : (a &&& b).testBit q = true := by rw [Nat.testBit_and, ha, hb]; rfl
    rw [h, Nat.zero_testBit] at this
    cases this
theorem one_bit (p : Nat) : Nat.testBit 1 p = true ↔ p = 0 := by
  rw [show (1 : Nat) = 2 ^ 0 by rfl, Nat.testBit_two_pow]; simp; exact eq_comm
theorem lbAt_nf (x : X) : LbAt (fun i => (nf x).1.labs[i]?.getD ⟨#[]⟩) 1 x.ps := fun i hi => by
  show (nf x).1.labs[1 + i]?.getD ⟨#[]⟩ = _
  rw [nf_labs, Nat.add_comm, List.getElem?_cons_succ, List.getElem?_eq_getElem hi]
  rfl
/-- words that end at a last one -/
theorem ends_iff {x : X} (hg : x.good) (hsz : x.sz ≤ 24) {u : Wd} (hu : u ≠ []) : (∃ q, (stepsN (nf x).1.labs (nfF x) 1 u).testBit q = true ∧ (nfL x).testBit q = true) ↔ x.L u := by
  have hp := pn_sz x
  have hb := nf_bd x
  rw [walks_any x hg 1 _ (lbAt_nf x) u]
  have hs := fun q => stepsN_bit (labs := (nf x).1.labs) (n := 1 + x.pn) (by omega) hb.1 u hu 1 (Nat.one_lt_two_pow (by omega)) q
  have hrn : ∀ {m q : Nat}, 0 < m → (Rn (fun i => (nf x).1.labs[i]?.getD ⟨#[]⟩) (fun a b => (nfF x a).testBit b) m u q ↔ Rn (fun i => (nf x).1.labs[i]?.getD ⟨#[]⟩) (x.fol 1) m u q) := by
    intro m q hm
    constructor
    · intro h
      induction h with
      | one p => exact .one p
      | cons p m u r h h1 ih =>
        rw [nfF_pos x hm] at h
        have := fol_in x 1 p m h
        by_cases hu' : u = []
        · subst hu'; exact absurd rfl h1.ne
        · refine .cons p m u r h (ih hu' ?_ ?_)
          · exact fun q => stepsN_bit (labs := (nf x).1.labs) (n := 1 + x.pn) (by omega) hb.1 u hu' 1 (Nat.one_lt_two_pow (by omega)) q
          · omega
    · intro h
      induction h with
      | one p => exact .one p
      | cons p m u r h h1 ih =>
        have hx := fol_in x 1 p m h
        by_cases hu' : u = []
        · subst hu'; exact absurd rfl h1.ne
        · refine .cons p m u r (by rw [nfF_pos x hm]; exact h) (ih hu' ?_ ?_)
          · exact fun q => stepsN_bit (labs := (nf x).1.labs) (n := 1 + x.pn) (by omega) hb.1 u hu' 1 (Nat.one_lt_two_pow (by omega)) q
          · omega
  constructor
  · rintro ⟨q, hq, hl⟩
    obtain ⟨p, m, h1, h2, h3⟩ := (hs q).1 hq
    obtain rfl := (one_bit p).1 h1
    rw [nfF_zero] at h2
    have := fst_in x 1 m h2
    exact .inr ⟨m, q, h2, by rw [← nfL_bit]; exact hl, (hrn (by omega)).1 h3⟩
  · rintro (⟨h, _⟩ | ⟨m, q, hm, hq, h⟩)
    · exact absurd h hu
    · have := fst_in x 1 m hm
      exact ⟨q, (hs q).2 ⟨0, m, (one_bit 0).2 rfl, by rw [nfF_zero]; exact hm, (hrn (by omega)).2 h⟩, by rw [nfL_bit]; exact hq⟩
theorem takesN_iff {x : X} (hg : x.good) (hsz : x.sz ≤ 24) (u : Wd) : takesN x u = true ↔ x.L u := by
  unfold takesN
  by_cases hu : u = []
  · subst hu
    rw [if_pos rfl]
    exact emp_iff x hg
  · rw [if_neg hu, decide_eq_true_eq, and_ne_zero]
    exact ends_iff hg hsz hu

/-- some begin, some end -/
theorem fst_some : ∀ x : X, x.good → ∀ a, (∃ p, x.fst a p = true) ∧ ∃ p, x.lst a p = true := by
  intro x
  induction x using X.ind' with
  | h x ih =>
    intro hg a
    have ih' : ∀ y ∈ x.kids, ∀ a, (∃ p, y.fst a p = true) ∧ ∃ p, y.lst a p = true := fun y hy => ih y hy (hg.kids y hy)
    have hne : x.kind ≠ 1 → x.kids ≠ [] := by
      intro h1 hk
      have hf := hg.fit
      unfold X.fits fitB at hf
      rw [if_neg h1] at hf
      split at hf
      · rw [hk] at hf; simp at hf
      · split at hf
        · rw [hk] at hf; simp at hf
        · cases hf
    by_cases k1 : x.kind = 1
    · exact ⟨⟨a, by rw [X.fst_eq, if_pos k1]; simp⟩, a, by rw [X.lst_eq, if_pos k1]; simp⟩
    · have hn := hne k1
      generalize x.kids = ks at hn ih'
      have hS : ∀ ks : List X, ks ≠ [] → (∀ y ∈ ks, ∀ a, (∃ p, y.fst a p = true) ∧ ∃ p, y.lst a p = true) → ∀ a, (∃ p, fstS ks a p = true) ∧ (∃ p, lstS ks a p = true) ∧ (∃ p, fstA ks a p = true) ∧ ∃ p, lstA ks a p = true := by
        intro ks
        induction ks with
        | nil => intro h; exact absurd rfl h
        | cons y ys ihy =>
          intro _ h a
          obtain ⟨⟨p, hp⟩, q, hq⟩ := h y (by simp) a
          refine ⟨⟨p, by rw [fstS, hp]; rfl⟩, ?_, ⟨p, by rw [fstA, hp]; rfl⟩, q, by rw [lstA, hq]; rfl⟩
          by_cases h0 : ys = []
          · subst h0; exact ⟨q, by rw [lstS, allE, hq]; rfl⟩
          · obtain ⟨_, ⟨r, hr⟩, _⟩ := ihy h0 (fun z hz => h z (by simp [hz])) (a + y.pn)
            exact ⟨r, by rw [lstS, hr, Bool.or_true]⟩
      obtain ⟨h1, h2, h3, h4⟩ := hS x.kids (hne k1) (fun y hy => ih y hy (hg.kids y hy)) a
      by_cases k2 : x.kind = 2
      · obtain ⟨p, hp⟩ := h1
        obtain ⟨q, hq⟩ := h2
        exact ⟨⟨p, by rw [X.fst_eq, if_neg k1, if_pos k2]; exact hp⟩, q, by rw [X.lst_eq, if_neg k1, if_pos k2]; exact hq⟩
      · obtain ⟨p, hp⟩ := h3
        obtain ⟨q, hq⟩ := h4
        exact ⟨⟨p, by rw [X.fst_eq, if_neg k1, if_neg k2]; exact hp⟩, q, by rw [X.lst_eq, if_neg k1, if_neg k2]; exact hq⟩
end Go.Proofs.YtnccgaanfjaimaaDoor
