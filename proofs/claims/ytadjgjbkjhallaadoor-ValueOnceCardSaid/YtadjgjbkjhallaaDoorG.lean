/- Walks of the document's comparison, of what holds, of values made. -/
import Derived.Test.YtadjgjbkjhallaaDoorF
import Derived.LaidEql
import Derived.Laws.StructEq
namespace Go.Proofs.YtadjgjbkjhallaaDoor
open Go.ChangeShapes Go.WideShapes Go.ChangeAt Go.RowKit
set_option linter.unusedVariables false

theorem bless : ∀ a b : List UInt8, Op.bytesLess a b = decide (Lib.compareBytes a b = -1)
  | [], [] => by simp [Op.bytesLess, Lib.compareBytes]
  | [], _ :: _ => by simp [Op.bytesLess, Lib.compareBytes]
  | _ :: _, [] => by simp [Op.bytesLess, Lib.compareBytes]
  | a :: x, b :: y => by
    simp only [Op.bytesLess, Lib.compareBytes]
    by_cases h1 : a < b
    · simp [h1]
    · by_cases h2 : b < a
      · have h3 : (a == b) = false := by rw [beq_eq_false_iff_ne]; rintro rfl; exact h1 h2
        simp [h1, h2, h3]
      · have := u8_tri a b h1 h2
        subst this
        simp [bless x y]
theorem blessB (a b : ByteArray) : Op.bytesLess a.toList b.toList = decide (cmpB a b = -1) := by
  rw [bless, ByteArray.toList_eq, ByteArray.toList_eq]
  rfl
theorem tl_ne {a b : ByteArray} (h : a ≠ b) : ¬ a.toList = b.toList := fun e => h (data_inj (by rwa [ByteArray.toList_eq, ByteArray.toList_eq] at e))

theorem eqIn25 (W : World) (d : Nat) (a a' b b' : Int) (c c' : ByteArray) : (Op.equalIn (d + 1 + 1) 25 (.agg #[.int .i64 a, .int .i64 b, .string c]) (.agg #[.int .i64 a', .int .i64 b', .string c'])).run Tryd.prog W = .ok (decide ((a, b, c) = (a', b', c'))) W := by
  rw [run_equalIn_struct W (d + 1) 25 _ _ (by kernel_rfl) (by kernel_rfl)]
  simp [Program.fieldsOf, Tryd.underlying25, Op.eqFields, go_sem]
  have hl : c.toList = c'.toList ↔ c = c' := ⟨fun h => data_inj (by rwa [ByteArray.toList_eq, ByteArray.toList_eq] at h), fun h => by rw [h]⟩
  simp only [hl]
  by_cases h1 : a = a' <;> by_cases h2 : b = b' <;> by_cases h3 : c = c' <;> simp [h1, h2, h3]
theorem eq25 (W : World) (a a' b b' : Int) (c c' : ByteArray) : (binOp .eql 25 (.agg #[.int .i64 a, .int .i64 b, .string c]) (.agg #[.int .i64 a', .int .i64 b', .string c'])).run Tryd.prog W = .ok (.bool (decide ((a, b, c) = (a', b', c')))) W := by
  rw [run_eql_struct, eqIn25]
  rfl
theorem ne25 (W : World) (a a' b b' : Int) (c c' : ByteArray) : (binOp .neq 25 (.agg #[.int .i64 a, .int .i64 b, .string c]) (.agg #[.int .i64 a', .int .i64 b', .string c'])).run Tryd.prog W = .ok (.bool (!decide ((a, b, c) = (a', b', c')))) W := by
  rw [run_neq_struct, eqIn25]
  rfl

def CmpR (x y : Vt) (w : World) (e : Ending) (w' : World) : Prop := e = .returned (.int .i64 (cmpV x y)) ∧ Gr w w'

theorem rCompare_any (x y : Vt) (w : World) : Calls Tryd.prog 9 #[.agg #[.int .i64 x.1, .int .i64 x.2.1, .string x.2.2], .agg #[.int .i64 y.1, .int .i64 y.2.1, .string y.2.2]] w (CmpR x y w) := by
  obtain ⟨k1, n1, t1⟩ := x
  obtain ⟨k2, n2, t2⟩ := y
  simp only
  by_cases a1 : k1 < k2
  · have HE := Lib.hid (show cmpV (k1, n1, t1) (k2, n2, t2) = -1 by rw [cmpV_or]; simp [or3, Lib.compareInt, a1])
    go_enter Tryd.func9, Tryd.ntmps9
    go_wp2_with fail
    go_ret
    exact ⟨ret_int HE.out.symm, ((Gr.refl w).alloc _).alloc _⟩
  · by_cases a2 : k1 = k2
    · subst a2
      by_cases b1 : n1 < n2
      · have HE := Lib.hid (show cmpV (k1, n1, t1) (k1, n2, t2) = -1 by rw [cmpV_or]; simp [or3, Lib.compareInt, b1])
        clear a1
        go_enter Tryd.func9, Tryd.ntmps9
        go_wp2_with fail
        go_ret
        exact ⟨ret_int HE.out.symm, ((Gr.refl w).alloc _).alloc _⟩
      · by_cases b2 : n1 = n2
        · subst b2
          have hc : cmpV (k1, n1, t1) (k1, n1, t2) = cmpB t1 t2 := by rw [cmpV_or]; simp [or3, Lib.compareInt]
          have hl := blessB t1 t2
          rcases three_bytes.rng t1 t2 with h | h | h
          · rw [h, decide_eq_true rfl] at hl
            have HE := Lib.hid (hc.trans h)
            clear a1 b1 hc h
            go_enter Tryd.func9, Tryd.ntmps9
            go_wp2_with fail
            go_ret
            exact ⟨ret_int HE.out.symm, ((Gr.refl w).alloc _).alloc _⟩
          · have hq := (three_bytes.zero t1 t2).1 h
            rw [h, decide_eq_false (by decide)] at hl
            have HE := Lib.hid (hc.trans h)
            subst hq
            clear a1 b1 hc h
            go_enter Tryd.func9, Tryd.ntmps9
            go_wp2_with fail
            go_ret
            exact ⟨ret_int HE.out.symm, ((Gr.refl w).alloc _).alloc _⟩
          · have hne : t1 ≠ t2 := fun e => by rw [(three_bytes.zero t1 t2).2 e] at h; omega
            have hb := tl_ne hne
            have HE := Lib.hid (hc.trans h)
            rw [h, decide_eq_false (by decide)] at hl
            clear a1 b1 hc h hne
            go_enter Tryd.func9, Tryd.ntmps9
            go_wp2_with fail
            go_ret
            exact ⟨ret_int HE.out.symm, ((Gr.refl w).alloc _).alloc _⟩
        · have he := fun W => eq25 W k1 k1 n1 n2 t1 t2
          have hne : ¬ (k1, n1, t1) = (k1, n2, t2) := by
            rintro e
            injection e with _ e
            injection e with e _
            exact b2 e
          rw [decide_eq_false hne] at he
          have b3 : n2 < n1 := by omega
          have HE := Lib.hid (show cmpV (k1, n1, t1) (k1, n2, t2) = 1 by rw [cmpV_or]; simp [or3, Lib.compareInt, b1, b3])
          have b2' : (n1 == n2) = false := by simpa using b2
          clear a1 b2 hne b3
          go_enter Tryd.func9, Tryd.ntmps9
          go_wp2_with fail
          go_ret
          exact ⟨ret_int HE.out.symm, ((Gr.refl w).alloc _).alloc _⟩
    · have he := fun W => eq25 W k1 k2 n1 n2 t1 t2
      have hne : ¬ (k1, n1, t1) = (k2, n2, t2) := by
        rintro e
        injection e with e _
        exact a2 e
      rw [decide_eq_false hne] at he
      have a3 : k2 < k1 := by omega
      have HE := Lib.hid (show cmpV (k1, n1, t1) (k2, n2, t2) = 1 by rw [cmpV_or]; simp [or3, Lib.compareInt, a1, a3])
      have a2' : (k1 == k2) = false := by simpa using a2
      clear a2 hne a3
      go_enter Tryd.func9, Tryd.ntmps9
      go_wp2_with fail
      go_ret
      exact ⟨ret_int HE.out.symm, ((Gr.refl w).alloc _).alloc _⟩
end Go.Proofs.YtadjgjbkjhallaaDoor
