/- Append out of any row of bytes; walks of the document's text, number. -/
import Derived.Test.YtpoefcpgcojppaaPG
import Derived.Deep.RegionLaw
namespace Go.Proofs.Ytpoefcpgcojppaa
open Go.ChangeShapes Go.WideShapes Go.ChangeAt Go.RowKit
set_option linter.unusedVariables false

theorem run_append_br {P : Program} {w : World} {t ty base : Nat} {i : TypeInfo} (ht : P.underlying t = some (.slice 5)) (hi : P.info? 5 = some i) (hz : i.zero = some (.int .u8 0)) (hs : i.size = 1) (hby : i.bytes = 1)
    {v : Value} {n : Nat} {xs : List Value} (hown : w.ownsRow base 5 1 v n xs) {v2 : Value} {l : List UInt8} (hpr : BR w v2 l) (hl : n + l.length ≤ 2000000) (hbase : base ≤ w.heap.size) :
    ∃ v' w', (Builtin.append_ #[t, t] ty #[v, v2]).run P w = .ok v' w' ∧ w'.ownsRow base 5 1 v' (n + l.length) (xs ++ byC l) ∧ w.grownBy w' v.ownBlock ∧ (v'.ownBlock = v.ownBlock ∨ v'.ownBlock = some w.heap.size) := by
  obtain ⟨A, c, rfl, hr⟩ := hpr
  cases A with
  | none =>
    have h0 : l = [] := by
      cases l with
      | nil => rfl
      | cons a r =>
        obtain ⟨ad, e, _⟩ := hr (by simp)
        cases e
    subst h0
    refine ⟨v, w, ?_, by simpa [byC] using hown, ⟨rfl, rfl, rfl, Nat.le_refl _, fun _ _ _ => rfl⟩, .inl rfl⟩
    rcases hown.2 with ⟨rfl, rfl⟩ | ⟨g, cap, cur, rfl, _, _, hnc, _⟩
    · simp [Builtin.append_, run_underlying ht, sizeOf, typeInfo, hi, Builtin.lenOf, Builtin.firstCells]
    · simp [Builtin.append_, run_underlying ht, sizeOf, typeInfo, hi, Builtin.lenOf, Builtin.firstCells, hnc, storeCells]
  | some ad =>
    have hnews : ∀ j u, (byC l)[j]? = some u → w.cell? (ad.add j) = some u := by
      intro j u hj
      have h0 : 0 < l.length := by
        have := (List.getElem?_eq_some_iff.1 hj).1
        rw [byC_len] at this
        omega
      obtain ⟨ad', e, _, hc⟩ := hr h0
      injection e with e
      rw [e]
      exact hc j u hj
    obtain ⟨v', w', h1, h2, h3, _, h5⟩ := run_append_own_at (P := P) w base t ty 5 i (.int .u8 0) 1 1 ht hi hz hs hby rfl (by decide) v n xs hown ad l.length c (byC l) (by rw [byC_len]; omega) hnews (byC_one l) (by unfold maxLen; omega) (by omega) hbase
    exact ⟨v', w', h1, h2, h3, h5⟩
theorem wp_append_br {P : Program} {w : World} {o : Oper} {a : Act} {K : Act → World → Prop} {Q : Exit → Act → World → Prop} (s x : Operand) {t base : Nat} (ho : o.op = .call { callee := .builtin .append, args := #[s, x], argTypes := #[t, t] })
    {i : TypeInfo} (ht : P.underlying t = some (.slice 5)) (hi : P.info? 5 = some i) (hz : i.zero = some (.int .u8 0)) (hs : i.size = 1) (hby : i.bytes = 1)
    {v : Value} {n : Nat} {xs : List Value} (he : a.eval s = v) (hown : w.ownsRow base 5 1 v n xs) {v2 : Value} {l : List UInt8} (hx : a.eval x = v2) (hpr : BR w v2 l) (hl : n + l.length ≤ 2000000) (hbase : base ≤ w.heap.size)
    (h : ∀ v' w', w'.ownsRow base 5 1 v' (n + l.length) (xs ++ byC l) → w.grownBy w' v.ownBlock → (v'.ownBlock = v.ownBlock ∨ v'.ownBlock = some w.heap.size) → K (a.put o.dst v') w') : o.wp P a w K Q := by
  obtain ⟨v', w', hr, h2, h3, h4⟩ := run_append_br (P := P) (ty := o.type) ht hi hz hs hby hown hpr hl hbase
  unfold Oper.wp execOp
  simp only [ho, resolve, invoke, builtin, Sem.run_bind, Sem.run_pure, Result.andThen_ok, List.map_toArray, List.map_cons, List.map_nil, he, hx, hr]
  exact h v' w' h2 h3 h4
theorem wpList_append_br {P : Program} {w : World} {ops : Array Oper} {rest : List Oper} {o : Oper} {a : Act} {Q : Exit → Act → World → Prop} (hgd : o.guard = none) (s x : Operand) {t base : Nat} (ho : o.op = .call { callee := .builtin .append, args := #[s, x], argTypes := #[t, t] })
    {i : TypeInfo} (ht : P.underlying t = some (.slice 5)) (hi : P.info? 5 = some i) (hz : i.zero = some (.int .u8 0)) (hs : i.size = 1) (hby : i.bytes = 1)
    {v : Value} {n : Nat} {xs : List Value} (he : a.eval s = v) (hown : w.ownsRow base 5 1 v n xs) {v2 : Value} {l : List UInt8} (hx : a.eval x = v2) (hpr : BR w v2 l) (hl : n + l.length ≤ 2000000) (hbase : base ≤ w.heap.size)
    (h : ∀ v' w', w'.ownsRow base 5 1 v' (n + l.length) (xs ++ byC l) → w.grownBy w' v.ownBlock → (v'.ownBlock = v.ownBlock ∨ v'.ownBlock = some w.heap.size) → wpList P ops Q rest (a.put o.dst v') w') : wpList P ops Q (o :: rest) a w :=
  wpList_plain hgd fun _ hK => wp_append_br s x ho ht hi hz hs hby he hown hx hpr hl hbase fun v' w' h2 h3 h4 => hK _ _ (h v' w' h2 h3 h4)
theorem step_append_br {P : Program} {w : World} {ops : Array Oper} {o : Oper} {a : Act} {K : Act → World → Prop} {Q : Exit → Act → World → Prop} {E : Prop} (hgd : o.guard = none) (s x : Operand) {t base : Nat} (ho : o.op = .call { callee := .builtin .append, args := #[s, x], argTypes := #[t, t] })
    {i : TypeInfo} (ht : P.underlying t = some (.slice 5)) (hi : P.info? 5 = some i) (hz : i.zero = some (.int .u8 0)) (hs : i.size = 1) (hby : i.bytes = 1)
    {v : Value} {n : Nat} {xs : List Value} (he : a.eval s = v) (hown : w.ownsRow base 5 1 v n xs) {v2 : Value} {l : List UInt8} (hx : a.eval x = v2) (hpr : BR w v2 l) (hl : n + l.length ≤ 2000000) (hbase : base ≤ w.heap.size)
    (h : ∀ v' w', w'.ownsRow base 5 1 v' (n + l.length) (xs ++ byC l) → w.grownBy w' v.ownBlock → (v'.ownBlock = v.ownBlock ∨ v'.ownBlock = some w.heap.size) → K (a.put o.dst v') w') :
    if Region.wanted o (yielded ops a.tmps) = true then Oper.wp P o a w K Q else E := by
  have hw : Region.wanted o (yielded ops a.tmps) = true := by simp [Region.wanted, hgd]
  rw [if_pos hw]
  exact wp_append_br s x ho ht hi hz hs hby he hown hx hpr hl hbase h

/-- a row of its own, of these bytes -/
def OwnR (l : List UInt8) (w : World) (e : Ending) (w' : World) : Prop := ∃ v, e = .returned v ∧ w'.ownsRow w.heap.size 5 1 v l.length (byC l) ∧ Below w.heap.size w w'

set_option maxRecDepth 100000 in
theorem rText_any (s : ByteArray) (w : World) (hs : s.size ≤ 1000000) : Calls Try.prog 41 #[.string s] w (OwnR (txt s) w) := by
  obtain ⟨i0, hi, hz0, hz1, hz2⟩ := info_parts5
  unfold OwnR
  have hw8 := wrap_u8 (s.size : Int)
  have hown : (w.alloc (.cells #[.int .u8 ((oct (s.size : Int)).toNat : Int)] 5)).ownsRow w.heap.size 5 1 (.slice (some ⟨w.heap.size, 0, none⟩) 1 1) 1 [.int .u8 ((oct (s.size : Int)).toNat : Int)] := ⟨rfl, .inr ⟨w.heap.size, 1, _, rfl, Nat.le_refl _, heap_alloc_new w _, Nat.le_refl _, by unfold maxLen; omega, rfl, rfl⟩⟩
  have HW := Lib.hid ((Below.refl w.heap.size w).alloc (Nat.le_refl _) (.cells #[.int .u8 ((oct (s.size : Int)).toNat : Int)] 5))
  go_enter Try.func41, Try.ntmps41
  go_wp2_with (at_builtin; refine wpList_append_str rfl _ _ rfl Try.underlying34 Try.underlying9 hi hz0 hz1 hz2 rfl hown s rfl (by omega) (by simp) ?_; intro v2 w2 s1 s2 s3)
  go_ret
  refine ⟨_, rfl, ?_, HW.out.grown s2 (by simp) (fun k hk => by cases hk; exact Nat.le_refl _)⟩
  have e : byC (txt s) = [.int .u8 ((oct (s.size : Int)).toNat : Int)] ++ Lib.strCells s := rfl
  rw [e, txt_len, Nat.add_comm]
  exact s1

theorem num6_at2 (n : Int) (k : Nat) (hk : k < 6) : numK n (k + 1) = numK n k ++ [oct (n / 2 ^ (8 * (5 - k)))] := num6_at n k hk

set_option maxHeartbeats 2000000 in
set_option maxRecDepth 100000 in
theorem rNumber_any (x : Int) (w : World) : Calls Try.prog 42 #[.int .i64 x] w (OwnR (num6 x) w) := by
  obtain ⟨i0, hi, hz0, hz1, hz2⟩ := info_parts5
  unfold OwnR
  go_enter Try.func42, Try.ntmps42
  go_wp2_with fail
  go_loopw [3, 4] (fun b i wr => ∃ k : Nat, k ≤ 6 ∧ i = .int .i64 (5 - (k : Int)) ∧ wr.ownsRow w.heap.size 5 1 b (numK x k).length (byC (numK x k)) ∧ Below w.heap.size w wr) (fun _ i _ => (Lib.intOf i + 1).toNat)
  case atStart => exact ⟨0, Nat.zero_le _, rfl, by simpa [numK, byC] using World.ownsRow_nil w w.heap.size 5 1, Below.refl _ _⟩
  case round =>
    obtain ⟨k, hk, rfl, hr, hb⟩ := hrel
    have HB := Lib.hid hb
    have hbw : w.heap.size ≤ wr.heap.size := hb.size
    clear hb
    by_cases hlt : k < 6
    · have HT := Lib.hid (num6_at2 x k hlt)
      have hkl : (numK x k).length ≤ 6 := by unfold numK; rw [List.length_take]; omega
      obtain ⟨L, hL⟩ : ∃ L, numK x k = L := ⟨_, rfl⟩
      have HLL := Lib.hid hL
      rw [hL] at hr hkl
      clear hL
      have hs1 : IntKind.i64.wrap (5 - (k : Int)) = 5 - (k : Int) := by rw [IntKind.wrap_i64]; omega
      have hs2 : IntKind.i64.wrap (8 * (5 - (k : Int))) = 8 * (5 - (k : Int)) := by rw [IntKind.wrap_i64]; omega
      have hs3 : (0 : Int) ≤ 5 - (k : Int) := by omega
      have HO := Lib.hid (own_base hr)
      go_wp2_with (at_builtin; refine wpList_append_own_at _ rfl _ _ 34 rfl w.heap.size 5 i0 (.int .u8 0) 1 1 Try.underlying34 hi hz0 hz1 hz2 rfl (by decide) _ L.length (byC L) rfl (hr.alloc _) ⟨wr.heap.size, 0, none⟩ 1 1 [.int .u8 (x / 2 ^ (8 * (5 - k)) % 256)] rfl rfl (cell_one_new _ _ _) (by simp [Value.oneCell']) (by unfold maxLen; omega) (by omega) (by simp; omega) ?_; intro v1 w1 r1 r2 r3 r4; have HG1 := Lib.hid (And.intro r1 ((HB.out.alloc hbw (.cells #[.int .u8 (x / 2 ^ (8 * (5 - k)) % 256)] 5)).grown r2 (by simp; omega) (fun j hj => HO.out j hj))); clear r1 r2 r3 r4 hr)
      go_roundw
      case rel =>
        have e : byC L ++ [Value.int .u8 (x / 2 ^ (8 * (5 - k)) % 256)] = byC (numK x (k + 1)) := by
          rw [HT.out, HLL.out, byC_app, ← byC_cons, oct_int]
        have e2 : (numK x (k + 1)).length = L.length + 1 := by rw [HT.out, HLL.out]; simp
        refine ⟨k + 1, by omega, ?_, by rw [e2, ← e]; exact HG1.out.1, HG1.out.2⟩
        first | go_num | (congr 1; omega)
      case measure => simp [Lib.intOf]; omega
    · obtain rfl : k = 6 := by omega
      have e : numK x 6 = num6 x := rfl
      rw [e] at hr
      go_wp2_with fail
      go_ret
      exact ⟨_, rfl, hr, HB.out⟩
end Go.Proofs.Ytpoefcpgcojppaa
