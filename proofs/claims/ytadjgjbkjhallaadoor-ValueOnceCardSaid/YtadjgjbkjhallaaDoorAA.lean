/- A row of values copied. -/
import Derived.Test.YtadjgjbkjhallaaDoorQ
import Derived.Laws.CopyOwn
import Derived.OwnWalk
import Derived.Deep.Cut
namespace Go.Proofs.YtadjgjbkjhallaaDoor
open Go.ChangeShapes Go.WideShapes Go.ChangeAt Go.RowKit Go.Deep
set_option linter.unusedVariables false

/-! ### the built-in copy at elements of several cells -/
theorem run_copyK {P : Program} (w : World) (dT sT ty elem : TypeId) (g dLen dCap : Nat) (ad : Addr) (sLen sCap : Nat) (cur : Array Value) (t : TypeId) (cs : List Value) (size n : Nat)
    (hu : P.underlying dT = some (.slice elem)) (hs : (P.info? elem).map (·.size) = some size)
    (hg : w.heap[g]? = some (.cells cur t (0, 0))) (hn : n = Nat.min sLen dLen) (hl0 : cs.length = n * size)
    (hsrc : ∀ j v, cs[j]? = some v → w.cell? (ad.add j) = some v) (hfit : cs.length ≤ cur.size) (h1 : ∀ v ∈ cs, v.oneCell' = true) :
    (Builtin.copy_ #[dT, sT] ty #[.slice (some ⟨g, 0, none⟩) dLen dCap, .slice (some ad) sLen sCap]).run P w =
      .ok (goInt n) (w.setRow g (cs ++ cur.toList.drop cs.length).toArray) := by
  have hl := run_loadCells_list (P := P) w ad cs hsrc
  have hst := run_storeCells_at P g 0 t cs 0 cur w hg (by simpa using hfit) h1
  cases hq : P.info? elem with
  | none => simp [hq] at hs
  | some i =>
    have hi : i.size = size := by simpa [hq] using hs
    rw [hl0] at hl
    simp [Builtin.copy_, run_underlying hu, Builtin.lenOf, Builtin.firstCells, sizeOf, typeInfo, hq, hi, ← hn, hl, hst]
theorem run_copyK_none {P : Program} (w : World) (dT sT ty elem : TypeId) (d a : Option Addr) (dLen dCap sLen sCap : Nat) (hu : P.underlying dT = some (.slice elem)) (hs : (P.info? elem).isSome = true) (hn : Nat.min sLen dLen = 0) :
    (Builtin.copy_ #[dT, sT] ty #[.slice d dLen dCap, .slice a sLen sCap]).run P w = .ok (goInt ((0 : Nat) : Int)) w := by
  cases hq : P.info? elem with
  | none => simp [hq] at hs
  | some i =>
    have hl : ∀ (x : Addr), (loadCells x 0).run P w = .ok #[] w := fun x => by simpa using run_loadCells_list (P := P) w x [] (by simp)
    cases d <;> cases a <;> simp [Builtin.copy_, run_underlying hu, Builtin.lenOf, Builtin.firstCells, sizeOf, typeInfo, hq, hn, storeCells, hl]
theorem wpList_copyK {P : Program} {w : World} {ops : Array Oper} {rest : List Oper} {o : Oper} {a : Act} {Q : Exit → Act → World → Prop} (hgd : o.guard = none) (d s : Operand) (dT sT : TypeId)
    (ho : o.op = .call { callee := .builtin .copy, args := #[d, s], argTypes := #[dT, sT] }) (dv sv : Value) (hd : a.eval d = dv) (hs : a.eval s = sv) (n : Nat) (w' : World)
    (hrun : (Builtin.copy_ #[dT, sT] o.type #[dv, sv]).run P w = .ok (goInt n) w') (h : wpList P ops Q rest (a.put o.dst (goInt n)) w') : wpList P ops Q (o :: rest) a w := by
  refine wpList_plain hgd fun K hK => ?_
  unfold Oper.wp
  simp [execOp, ho, resolve, invoke, builtin, hd, hs, hrun, Result.andThen]
  exact hK _ _ h

theorem info25 : ∃ i, Tryd.prog.info? 25 = some i := by
  have : (Tryd.prog.info? 25).isSome = true := by kernel_rfl
  exact Option.isSome_iff_exists.1 this
theorem parts25 : (Tryd.prog.info? 25).map (fun i => (i.zero, i.size, i.bytes)) = some (some (.agg #[.int .i64 0, .int .i64 0, .string ⟨#[]⟩]), 3, 32) := by kernel_rfl
theorem info_parts25 : ∃ i, Tryd.prog.info? 25 = some i ∧ i.zero = some (.agg #[.int .i64 0, .int .i64 0, .string ⟨#[]⟩]) ∧ i.size = 3 ∧ i.bytes = 32 := by
  have h := parts25
  cases hq : Tryd.prog.info? 25 with
  | none => rw [hq] at h; cases h
  | some i =>
    rw [hq] at h
    simp only [Option.map_some, Option.some.injEq, Prod.mk.injEq] at h
    exact ⟨i, rfl, h.1, h.2.1, h.2.2⟩

theorem vr_cells {w : World} {A : Option Addr} {n c : Nat} {l : List Vt} (h : VR w (.slice A n c) l) (hn : 0 < n) : ∃ ad, A = some ad ∧ ad.block < w.heap.size ∧ ∀ j v, (flatV l)[j]? = some v → w.cell? (ad.add j) = some v := by
  obtain ⟨A', c', e, h⟩ := h
  injection e with e1 e2 e3
  subst e1 e2 e3
  obtain ⟨ad, rfl, hb, hc⟩ := h hn
  refine ⟨ad, rfl, hb, fun j v hj => ?_⟩
  have hlt : j < l.length * 3 := by rw [← flatV_len]; exact (List.getElem?_eq_some_iff.1 hj).1
  obtain ⟨f1, f2, f3⟩ := flatV_at l (j / 3) (by omega)
  obtain ⟨c1, c2, c3⟩ := hc (j / 3) (by omega)
  have hm : j % 3 = 0 ∨ j % 3 = 1 ∨ j % 3 = 2 := by omega
  rcases hm with hm | hm | hm
  · have e : j / 3 * 3 = j := by omega
    rw [e] at f1 c1
    rw [f1] at hj
    injection hj with hj
    rw [← hj]; exact c1
  · have e : j / 3 * 3 + 1 = j := by omega
    rw [e] at f2 c2
    rw [f2] at hj
    injection hj with hj
    rw [← hj]; exact c2
  · have e : j / 3 * 3 + 2 = j := by omega
    rw [e] at f3 c3
    rw [f3] at hj
    injection hj with hj
    rw [← hj]; exact c3
theorem flatV_one (l : List Vt) : ∀ v ∈ flatV l, v.oneCell' = true := by
  intro v hv
  obtain ⟨x, _, hx⟩ := List.mem_flatMap.1 hv
  simp [encV] at hx
  rcases hx with rfl | rfl | rfl <;> rfl

def CopR (l : List Vt) (w : World) (e : Ending) (w' : World) : Prop := ∃ v, e = .returned v ∧ w'.ownsRow w.heap.size 25 3 v l.length (flatV l) ∧ Below w.heap.size w w'

set_option maxHeartbeats 2000000 in
set_option maxRecDepth 100000 in
theorem copied_any {w : World} {v : Value} {l : List Vt} (h : VR w v l) (hl : l.length ≤ 1000000) : Calls Tryd.prog 39 #[v] w (CopR l w) := by
  obtain ⟨i0, hi, hz0, hz1, hz3⟩ := info_parts25
  have H := Lib.hid h
  obtain ⟨A, c, rfl, _⟩ := h
  obtain ⟨n, hN⟩ : ∃ n, l.length = n := ⟨_, rfl⟩
  have HN := Lib.hid hN
  unfold CopR
  rw [hN] at H hl ⊢
  clear hN
  have hsz : (Tryd.prog.info? 25).map (·.size) = some 3 := by rw [hi]; simp [hz1]
  have hsm : (Tryd.prog.info? 25).isSome = true := by rw [hi]; rfl
  go_enter Tryd.func39, Tryd.ntmps39
  go_upto_region 2 with (at_make; refine wpList_make_full _ rfl _ _ 38 rfl w.heap.size 25 i0 _ 3 Tryd.underlying38 hi hz0 hz1 .i64 .i64 _ _ n rfl rfl rfl rfl (by rw [hz3]; omega) (by unfold maxLen; omega) (Nat.le_refl _) ?_; intro w1 hown hg)
  have hb1 : Below w.heap.size w w1 := (Below.refl _ w).grown hg (Nat.le_refl _) (fun k hk => by cases hk)
  rcases Nat.eq_zero_or_pos n with h0 | h0
  · have hl0 : l = [] := List.eq_nil_of_length_eq_zero (by rw [HN.out]; exact h0)
    have hrun := run_copyK_none (P := Tryd.prog) w1 38 38 3 25 (some ⟨w.heap.size, 0, none⟩) A n n n c Tryd.underlying38 hsm (by rw [h0]; rfl)
    have hfin : w1.ownsRow w.heap.size 25 3 (.slice (some ⟨w.heap.size, 0, none⟩) n n) n (flatV l) := by
      have h1 := hown.1
      have e : (madeCells (Value.agg #[.int .i64 0, .int .i64 0, .string ⟨#[]⟩]).cells (n * 3)).toList = flatV l := by
        rw [hl0]
        exact List.eq_nil_of_length_eq_zero (by rw [h1, h0])
      rw [← e]
      exact hown
    have HF := Lib.hid (And.intro hfin hb1)
    clear hown hg hb1 hl0 hfin h0
    go_wp2_with (at_builtin; refine wpList_copyK rfl _ _ _ _ rfl _ _ rfl rfl 0 w1 hrun ?_)
    go_ret
    exact ⟨_, rfl, HF.out⟩
  · obtain ⟨ad, hA, hab, hcells⟩ := vr_cells (H.out.below hb1) h0
    subst hA
    have hfl : (flatV l).length = n * 3 := by rw [flatV_len, HN.out]
    obtain ⟨_, ⟨hc1, _⟩ | ⟨g, cap, cur, hv, hbg, hheap, hcap, hmx, hcs, htk⟩⟩ := hown
    · cases hc1
    · injection hv with hv1 hv2 hv3
      injection hv1 with hv1
      have hgE : g = w.heap.size := by injection hv1 with hv1; exact hv1.symm
      subst hv3 hgE
      have hrun := run_copyK (P := Tryd.prog) w1 38 38 3 25 w.heap.size n n ad n c cur 25 (flatV l) 3 n Tryd.underlying38 hsz hheap (by show n = min n n; omega) hfl hcells (by rw [hfl, hcs]; omega) (flatV_one l)
      have hfin : (w1.setRow w.heap.size ((flatV l) ++ cur.toList.drop (flatV l).length).toArray).ownsRow w.heap.size 25 3 (.slice (some ⟨w.heap.size, 0, none⟩) n n) n (flatV l) := by
        refine ⟨hfl, .inr ⟨w.heap.size, n, _, rfl, Nat.le_refl _, setRow_heap w1 w.heap.size cur _ 25 _ hheap, Nat.le_refl _, hmx, ?_, ?_⟩⟩
        · simp only [List.size_toArray, List.length_append, List.length_drop, hfl, Array.length_toList, hcs]
          omega
        · simp [← hfl]
      have hlow := below_setRow hb1 (Nat.le_refl _) ((flatV l) ++ cur.toList.drop (flatV l).length).toArray
      have HF := Lib.hid (And.intro hfin hlow)
      generalize w1.setRow w.heap.size ((flatV l) ++ cur.toList.drop (flatV l).length).toArray = w2 at hrun HF
      clear hheap hcs htk hg hb1 hcells hfin hlow hfl
      go_wp2_with (at_builtin; refine wpList_copyK rfl _ _ _ _ rfl _ _ rfl rfl n w2 hrun ?_)
      go_ret
      exact ⟨_, rfl, HF.out⟩
end Go.Proofs.YtadjgjbkjhallaaDoor
