/- Walks of what puts texts, numbers, values behind bytes. -/
import Derived.Test.YtpoefcpgcojppaaPC
import Derived.Maps.AppendAt
namespace Go.Proofs.Ytpoefcpgcojppaa
open Go.ChangeShapes Go.WideShapes Go.ChangeAt Go.RowKit
set_option linter.unusedVariables false

/-- from w to w' nothing has turned but v's own block, which is v''s, or that is a new one -/
structure Grw (w : World) (v : Value) (w' : World) (v' : Value) : Prop where
  gr : w.grownBy w' v.ownBlock
  own : v'.ownBlock = v.ownBlock ∨ ∀ g, v'.ownBlock = some g → w.heap.size ≤ g
theorem Grw.refl (w : World) (v : Value) : Grw w v w v := ⟨⟨rfl, rfl, rfl, Nat.le_refl _, fun _ _ _ => rfl⟩, .inl rfl⟩
theorem Grw.trans {a b c : World} {u v x : Value} (h : Grw a u b v) (k : Grw b v c x) : Grw a u c x := by
  refine ⟨⟨k.gr.os.trans h.gr.os, k.gr.tape.trans h.gr.tape, k.gr.output.trans h.gr.output, Nat.le_trans h.gr.size k.gr.size, fun i hi hne => ?_⟩, ?_⟩
  · have h1 := h.gr.block i hi hne
    have h2 : some i ≠ v.ownBlock := by
      rcases h.own with e | e
      · rw [e]; exact hne
      · intro e2
        have := e i e2.symm
        omega
    exact (k.gr.block i (Nat.lt_of_lt_of_le hi h.gr.size) h2).trans h1
  · rcases k.own with e | e
    · rw [e]; exact h.own
    · right
      intro g hg
      exact Nat.le_trans h.gr.size (e g hg)
theorem Grw.alloc {w : World} (v : Value) (o : Obj) : Grw w v (w.alloc o) v := ⟨⟨rfl, rfl, rfl, by simp, fun k hk _ => Below.heap_alloc w o k hk⟩, .inl rfl⟩
theorem Grw.drewN {w : World} (v : Value) (n : Nat) : Grw w v (w.drewN n) v := ⟨⟨rfl, rfl, rfl, Nat.le_refl _, fun _ _ _ => rfl⟩, .inl rfl⟩
theorem Grw.of_at {w w' : World} {v v' : Value} (h : w.grownBy w' v.ownBlock) (k : v'.ownBlock = v.ownBlock ∨ v'.ownBlock = some w.heap.size) : Grw w v w' v' :=
  ⟨h, k.elim .inl fun e => .inr fun g hg => by rw [e] at hg; injection hg with hg; omega⟩
theorem Grw.cell {w w' : World} {v v' : Value} (h : Grw w v w' v') {a : Addr} (hb : a.block < w.heap.size) (hne : some a.block ≠ v.ownBlock) : w'.cell? a = w.cell? a :=
  World.cell?_of_block (h.gr.block _ hb hne)
theorem Grw.base {w w' : World} {v v' : Value} {base : Nat} (h : Grw w v w' v') (hb : base ≤ w.heap.size) (hv : ∀ g, v.ownBlock = some g → base ≤ g) : Below base w w' :=
  ⟨h.gr.os, h.gr.tape, h.gr.output, h.gr.size, fun k hk => h.gr.block k (by omega) fun e => by have := hv k e.symm; omega⟩
theorem own_base {w : World} {base n : Nat} {t : TypeId} {sz : Nat} {v : Value} {xs : List Value} (h : w.ownsRow base t sz v n xs) : ∀ g, v.ownBlock = some g → base ≤ g := by
  intro g hg
  rcases h.2 with ⟨rfl, _⟩ | ⟨g', cap, cur, rfl, hb, _⟩
  · cases hg
  · simp [Value.ownBlock] at hg
    omega
theorem own_lt {w : World} {base n : Nat} {t : TypeId} {sz : Nat} {v : Value} {xs : List Value} (h : w.ownsRow base t sz v n xs) : ∀ g, v.ownBlock = some g → g < w.heap.size := by
  intro g hg
  rcases h.2 with ⟨rfl, _⟩ | ⟨g', cap, cur, rfl, hb, hh, _⟩
  · cases hg
  · simp [Value.ownBlock] at hg
    have := (Array.getElem?_eq_some_iff.1 hh).1
    omega

theorem parts5 : (Try.prog.info? 5).map (fun i => (i.zero, i.size, i.bytes)) = some (some (.int .u8 0), 1, 1) := by kernel_rfl
theorem info_parts5 : ∃ i, Try.prog.info? 5 = some i ∧ i.zero = some (.int .u8 0) ∧ i.size = 1 ∧ i.bytes = 1 := by
  have h := parts5
  cases hq : Try.prog.info? 5 with
  | none => rw [hq] at h; cases h
  | some i =>
    rw [hq] at h
    simp only [Option.map_some, Option.some.injEq, Prod.mk.injEq] at h
    exact ⟨i, rfl, h.1, h.2.1, h.2.2⟩
theorem wrap_u8 (n : Int) : IntKind.u8.wrap n = ((oct n).toNat : Int) := by
  rw [oct_int]
  simp [IntKind.wrap, IntKind.bits, IntKind.signed]
theorem byC_cons (c : UInt8) : [Value.int .u8 (c.toNat : Int)] = byC [c] := rfl

theorem txt_len (s : ByteArray) : (txt s).length = s.size + 1 := by unfold txt; rw [List.length_cons, data_size]
/-- bytes of a text appended: where the row lies -/
theorem run_append_str {P : Program} {w : World} {t u ty base : Nat} {i : TypeInfo} (ht : P.underlying t = some (.slice 5)) (hu : P.underlying u = some .string) (hi : P.info? 5 = some i) (hz : i.zero = some (.int .u8 0)) (hsize : i.size = 1) (hby : i.bytes = 1)
    {v : Value} {n : Nat} {xs : List Value} (hown : w.ownsRow base 5 1 v n xs) (s : ByteArray) (hl : n + s.size ≤ 2000000) (hbase : base ≤ w.heap.size) :
    ∃ v' w', (Builtin.append_ #[t, u] ty #[v, .string s]).run P w = .ok v' w' ∧ w'.ownsRow base 5 1 v' (n + s.size) (xs ++ Lib.strCells s) ∧ w.grownBy w' v.ownBlock ∧ (v'.ownBlock = v.ownBlock ∨ v'.ownBlock = some w.heap.size) := by
  obtain ⟨v', w', hr, h2, h3, h4⟩ := Lib.run_append_own_string (P := P) w base t u ty 5 i ht hu hi hz hsize hby v n xs hown s (by unfold maxLen; omega) (by omega) hbase
  refine ⟨v', w', hr, h2, h3, ?_⟩
  have hxl : xs.length = n := by simpa using hown.1
  rcases hown.2 with ⟨rfl, rfl⟩ | ⟨g, cap, cur, rfl, hbg, hg, hnc, hcm, hcs, htake⟩
  · by_cases hm : s.size = 0
    · left
      rw [h4.2 ⟨rfl, hm⟩]
    · right
      have hr2 := run_append_nil_string (P := P) w t u ty 5 i (.int .u8 0) ht hu hi hz s (by omega) (by omega) (by rw [hby]; omega)
      rw [hr] at hr2
      injection hr2 with e1 e2
      rw [e1]
      rfl
  · by_cases hroom : n + s.size ≤ cap
    · left
      have hcs' : cur.size = cap := by simpa using hcs
      have hr2 := Lib.run_append_room_string (P := P) w t u ty 5 i ht hu hi hsize g n cap cur hg s hroom (by omega)
      rw [hr] at hr2
      injection hr2 with e1 e2
      rw [e1]
      rfl
    · right
      have holds : ∀ j u, xs[j]? = some u → w.cell? ((⟨g, 0, none⟩ : Addr).add j) = some u := hown.cells (g := g) rfl
      have hr2 := Lib.run_append_grow_string (P := P) w t u ty 5 i (.int .u8 0) ht hu hi hz ⟨g, 0, none⟩ n cap xs (by rw [hsize]; simpa using hxl) holds s (by omega) (by omega) (by rw [hby]; exact growslice_fits (by omega) (by omega))
      rw [hr] at hr2
      injection hr2 with e1 e2
      rw [e1]
      rfl
theorem wpList_append_str {P : Program} {w : World} {ops : Array Oper} {rest : List Oper} {o : Oper} {a : Act} {Q : Exit → Act → World → Prop} (hgd : o.guard = none) (sl x : Operand) {t u base : Nat} (ho : o.op = .call { callee := .builtin .append, args := #[sl, x], argTypes := #[t, u] })
    {i : TypeInfo} (ht : P.underlying t = some (.slice 5)) (hu : P.underlying u = some .string) (hi : P.info? 5 = some i) (hz : i.zero = some (.int .u8 0)) (hsize : i.size = 1) (hby : i.bytes = 1)
    {v : Value} {n : Nat} {xs : List Value} (hs : a.eval sl = v) (hown : w.ownsRow base 5 1 v n xs) (s : ByteArray) (hx : a.eval x = .string s) (hl : n + s.size ≤ 2000000) (hbase : base ≤ w.heap.size)
    (h : ∀ v' w', w'.ownsRow base 5 1 v' (n + s.size) (xs ++ Lib.strCells s) → w.grownBy w' v.ownBlock → (v'.ownBlock = v.ownBlock ∨ v'.ownBlock = some w.heap.size) → wpList P ops Q rest (a.put o.dst v') w') : wpList P ops Q (o :: rest) a w := by
  refine wpList_plain hgd fun K hK => ?_
  obtain ⟨v', w', hr, h2, h3, h4⟩ := run_append_str (P := P) (ty := o.type) ht hu hi hz hsize hby hown s hl hbase
  unfold Oper.wp execOp
  simp only [ho, resolve, invoke, builtin, Sem.run_bind, Sem.run_pure, Result.andThen_ok, List.map_toArray, List.map_cons, List.map_nil, hs, hx, hr]
  exact hK _ _ (h v' w' h2 h3 h4)

def PutR (base : Nat) (v : Value) (l : List UInt8) (w : World) (e : Ending) (w' : World) : Prop := ∃ v', e = .returned v' ∧ w'.ownsRow base 5 1 v' l.length (byC l) ∧ Grw w v w' v'
def txts (ts : List ByteArray) : List UInt8 := ts.flatMap txt

set_option maxHeartbeats 2000000 in
set_option maxRecDepth 100000 in
theorem putTexts_any {base gb n : Nat} {w : World} {v : Value} {l : List UInt8} {ts : List ByteArray} (hown : w.ownsRow base 5 1 v l.length (byC l)) (hn : ts.length = n) (hc : ∀ j (h : j < ts.length), w.cell? ⟨gb, j, none⟩ = some (.string ts[j])) (hgb : gb < w.heap.size) (hne : some gb ≠ v.ownBlock) (hbase : base ≤ w.heap.size) (hl : (l ++ txts ts).length ≤ 1000000) :
    Calls Try.prog 39 #[v, .slice (some ⟨gb, 0, none⟩) n n] w (PutR base v (l ++ txts ts) w) := by
  obtain ⟨i0, hi, hz0, hz1, hz2⟩ := info_parts5
  unfold PutR
  have HC := Lib.hid hc
  have HO := Lib.hid hown
  have HL := Lib.hid hl
  have HN := Lib.hid hn
  have hn48 : n ≤ 281474976710656 := by
    rw [← hn]
    have : ts.length ≤ (txts ts).length := by
      unfold txts
      clear hc hn hl HC HL HN
      induction ts with
      | nil => simp
      | cons a r ih => simp only [List.flatMap_cons, List.length_cons, List.length_append, txt_len]; omega
    simp at hl
    omega
  clear hc hl hown hn
  go_enter Try.func39, Try.ntmps39
  go_wp2_with fail
  go_loopw [0, 9] (fun b i wr => ∃ k : Nat, k ≤ n ∧ i = .int .i64 k ∧ wr.ownsRow base 5 1 b (l ++ txts (ts.take k)).length (byC (l ++ txts (ts.take k))) ∧ Grw w v wr b) (fun _ i _ => n - (Lib.intOf i).toNat)
  case atStart => exact ⟨0, Nat.zero_le _, rfl, by simpa [txts] using HO.out, Grw.refl _ _⟩
  case round =>
    obtain ⟨k, hk, rfl, hr, hg⟩ := hrel
    have HG := Lib.hid hg
    have hbw : base ≤ wr.heap.size := Nat.le_trans hbase hg.gr.size
    clear hg
    by_cases hlt : k < n
    · have e1 : k < ts.length := by rw [HN.out]; exact hlt
      have hcell := (HG.out.cell (a := ⟨gb, k, none⟩) hgb hne).trans (HC.out k e1)
      obtain ⟨s, hs⟩ : ∃ s, ts[k] = s := ⟨_, rfl⟩
      rw [hs] at hcell
      have hT : txts (ts.take (k + 1)) = txts (ts.take k) ++ txt s := by
        rw [List.take_succ_eq_append_getElem e1, hs]
        simp [txts]
      have hlen : (l ++ txts (ts.take k)).length + 1 + s.size ≤ 1000000 := by
        have h1 := HL.out
        have h2 : (txts ts).length = (txts (ts.take (k + 1))).length + (txts (ts.drop (k + 1))).length := by
          rw [← List.length_append]
          unfold txts
          rw [← List.flatMap_append, List.take_append_drop]
        have h3 := txt_len s
        rw [hT] at h2
        simp only [List.length_append] at h1 h2 ⊢
        omega
      have HT := Lib.hid hT
      clear hT hs
      obtain ⟨L, hL⟩ : ∃ L, l ++ txts (ts.take k) = L := ⟨_, rfl⟩
      have HLL := Lib.hid hL
      rw [hL] at hr hlen
      clear hL
      have hw8 := wrap_u8 (s.size : Int)
      go_wp2_with (at_builtin; first
        | (refine wpList_append_own_at _ rfl _ _ 34 rfl base 5 i0 (.int .u8 0) 1 1 Try.underlying34 hi hz0 hz1 hz2 rfl (by decide) _ L.length (byC L) rfl (hr.alloc _) ⟨wr.heap.size, 0, none⟩ 1 1 [.int .u8 ((oct (s.size : Int)).toNat : Int)] rfl rfl (cell_one_new _ _ _) (by simp [Value.oneCell']) (by unfold maxLen; omega) (by omega) (by simp; omega) ?_; intro v1 w1 r1 r2 r3 r4; have hg1 := (Grw.alloc u0 (.cells #[.int .u8 ((oct (s.size : Int)).toNat : Int)] 5)).trans (Grw.of_at r2 r4); have HG1 := Lib.hid (HG.out.trans hg1); clear r2 r3 r4 hg1 hr hcell)
        | (refine wpList_append_str rfl _ _ rfl Try.underlying34 Try.underlying9 hi hz0 hz1 hz2 rfl r1 s rfl (by omega) (by have := HG1.out.gr.size; omega) ?_; intro v2 w2 s1 s2 s3))
      have HS := Lib.hid (And.intro s1 (Grw.of_at s2 s3))
      go_roundw
      case rel =>
        have e : byC L ++ [Value.int .u8 ((oct (s.size : Int)).toNat : Int)] ++ Lib.strCells s = byC (l ++ txts (ts.take (k + 1))) := by
          rw [HT.out, byC_str, ← List.append_assoc, HLL.out, byC_cons, ← byC_app, ← byC_app, List.append_assoc]
          rfl
        have e2 : (l ++ txts (ts.take (k + 1))).length = L.length + 1 + s.size := by
          have := txt_len s
          rw [HT.out, ← List.append_assoc, HLL.out, List.length_append, this]
          omega
        exact ⟨k + 1, by omega, by go_num, by rw [e2, ← e]; exact HS.out.1, HG1.out.trans HS.out.2⟩
      case measure => simp [Lib.intOf]; omega
    · obtain rfl : k = n := by omega
      rw [List.take_of_length_le (by rw [HN.out]; exact Nat.le_refl _)] at hr
      go_wp2_with fail
      go_ret
      exact ⟨_, rfl, hr, HG.out⟩

/-! ### numbers -/
def numK (n : Int) (k : Nat) : List UInt8 := (num6 n).take k
theorem num6_at (n : Int) (k : Nat) (hk : k < 6) : (num6 n).take (k + 1) = (num6 n).take k ++ [oct (n / 2 ^ (8 * (5 - k)))] := by
  match k, hk with
  | 0, _ => rfl
  | 1, _ => rfl
  | 2, _ => rfl
  | 3, _ => rfl
  | 4, _ => rfl
  | 5, _ => simp [num6]

set_option maxHeartbeats 2000000 in
set_option maxRecDepth 100000 in
theorem putNumber_any {base : Nat} {w : World} {v : Value} {l : List UInt8} {x : Int} (hown : w.ownsRow base 5 1 v l.length (byC l)) (hbase : base ≤ w.heap.size) (hl : l.length ≤ 1000000) :
    Calls Try.prog 38 #[v, .int .i64 x] w (PutR base v (l ++ num6 x) w) := by
  obtain ⟨i0, hi, hz0, hz1, hz2⟩ := info_parts5
  unfold PutR
  have HO := Lib.hid hown
  clear hown
  go_enter Try.func38, Try.ntmps38
  go_wp2_with fail
  go_loopw [0, 6] (fun b i wr => ∃ k : Nat, k ≤ 6 ∧ i = .int .i64 k ∧ wr.ownsRow base 5 1 b (l ++ numK x k).length (byC (l ++ numK x k)) ∧ Grw w v wr b) (fun _ i _ => 6 - (Lib.intOf i).toNat)
  case atStart => exact ⟨0, Nat.zero_le _, rfl, by simpa [numK] using HO.out, Grw.refl _ _⟩
  case round =>
    obtain ⟨k, hk, rfl, hr, hg⟩ := hrel
    have HG := Lib.hid hg
    have hbw : base ≤ wr.heap.size := Nat.le_trans hbase hg.gr.size
    clear hg
    by_cases hlt : k < 6
    · have hT : numK x (k + 1) = numK x k ++ [oct (x / 2 ^ (8 * (5 - k)))] := num6_at x k hlt
      have HT := Lib.hid hT
      have hkl : (numK x k).length ≤ 6 := by unfold numK; rw [List.length_take]; omega
      obtain ⟨L, hL⟩ : ∃ L, l ++ numK x k = L := ⟨_, rfl⟩
      have HLL := Lib.hid hL
      have hLl : L.length ≤ 1000006 := by rw [← hL, List.length_append]; omega
      rw [hL] at hr
      clear hL hT hkl
      have hs1 : IntKind.i64.wrap (5 - (k : Int)) = 5 - (k : Int) := by rw [IntKind.wrap_i64]; omega
      have hs2 : IntKind.i64.wrap (8 * (5 - (k : Int))) = 8 * (5 - (k : Int)) := by rw [IntKind.wrap_i64]; omega
      go_wp2_with (at_builtin; refine wpList_append_own_at _ rfl _ _ 34 rfl base 5 i0 (.int .u8 0) 1 1 Try.underlying34 hi hz0 hz1 hz2 rfl (by decide) _ L.length (byC L) rfl (hr.alloc _) ⟨wr.heap.size, 0, none⟩ 1 1 [.int .u8 (x / 2 ^ (8 * (5 - k)) % 256)] rfl rfl (cell_one_new _ _ _) (by simp [Value.oneCell']) (by unfold maxLen; omega) (by omega) (by simp; omega) ?_; intro v1 w1 r1 r2 r3 r4; have hg1 := (Grw.alloc u0 (.cells #[.int .u8 (x / 2 ^ (8 * (5 - k)) % 256)] 5)).trans (Grw.of_at r2 r4); have HG1 := Lib.hid (And.intro r1 (HG.out.trans hg1)); clear r2 r3 r4 hg1 hr)
      go_roundw
      case rel =>
        have e : byC L ++ [Value.int .u8 (x / 2 ^ (8 * (5 - k)) % 256)] = byC (l ++ numK x (k + 1)) := by
          rw [HT.out, ← List.append_assoc, HLL.out, byC_app, ← byC_cons, oct_int]
        have e2 : (l ++ numK x (k + 1)).length = L.length + 1 := by rw [HT.out, ← List.append_assoc, HLL.out]; simp
        exact ⟨k + 1, by omega, by go_num, by rw [e2, ← e]; exact HG1.out.1, HG1.out.2⟩
      case measure => simp [Lib.intOf]; omega
    · obtain rfl : k = 6 := by omega
      have e : numK x 6 = num6 x := rfl
      rw [e] at hr
      go_wp2_with fail
      go_ret
      exact ⟨_, rfl, hr, HG.out⟩
end Go.Proofs.Ytpoefcpgcojppaa
