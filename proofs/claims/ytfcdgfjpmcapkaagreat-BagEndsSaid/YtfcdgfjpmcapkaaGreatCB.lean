/- The law's row of a key's entries. -/
import Derived.Test.YtfcdgfjpmcapkaaGreatCA
import Derived.RangeFuncBox
import Derived.OwnWalkIn
namespace Go.Proofs.YtfcdgfjpmcapkaaGreat
open Go.ChangeShapes Go.WideShapes Go.ChangeAt Go.RowKit Go.Maps Go.Shelf
set_option linter.unusedVariables false

attribute [local go_sem] Oper.semAt_some

theorem info38 : (Tryz.prog.info? 38).map (fun i => (i.zero, i.size, i.bytes)) = some (some (.agg #[.string ⟨#[]⟩, .int .i64 0, .int .i64 0]), 3, 32) := by kernel_rfl

theorem run_equalIn_func_nil {P : Program} (w : World) (d : Nat) (t : TypeId) (ps rs : Array TypeId) (vd : Bool) (fn : Fn) (fi ca : Array Value) (h : P.underlying t = some (.func ps rs vd)) :
    (Op.equalIn (d + 1) t (.func fn fi ca) .nilFunc).run P w = .ok false w := by
  simp [Op.equalIn, run_underlying h]
theorem run_eql_func_nil {P : Program} (w : World) (t : TypeId) (ps rs : Array TypeId) (vd : Bool) (fn : Fn) (fi ca : Array Value) (h : P.underlying t = some (.func ps rs vd)) :
    (binOp .eql t (.func fn fi ca) .nilFunc).run P w = .ok (.bool false) w := by
  simp only [binOp]
  simp [Op.equal, Op.maxDepth, run_equalIn_func_nil w 9999 t ps rs vd fn fi ca h]
theorem Boxed.belowB {n : Nat} {w w' : World} {B : Nat} {t : TypeId} {v : Value} (h : Boxed w B t v) (hb : Below n w w') (hn : B < n) : Boxed w' B t v := (hb.block B hn).trans h
theorem Boxed.new2 (w : World) (t : TypeId) (v : Value) (n : Nat) (hn : w.heap.size = n) : Boxed (w.alloc (.cells #[v] t)) n t v := by subst hn; exact Boxed.new w t v
theorem row_form2 {w : World} {base e size n : Nat} {v : Value} {xs : List Value} (h : w.ownsRow base e size v n xs) : ∃ A c, v = .slice A n c := by
  rcases h.2 with ⟨rfl, rfl⟩ | ⟨g, cap, cur, rfl, _⟩
  · exact ⟨_, _, rfl⟩
  · exact ⟨_, _, rfl⟩
theorem app_box {W w1 : World} {n₁ B e sz : Nat} {t : TypeId} {v v' : Value} {k m : Nat} {xs ys : List Value} {tmp : Obj}
    (hv : Boxed W B t v) (hB : B < n₁) (hn : n₁ ≤ W.heap.size) (hrow : W.ownsRow n₁ e sz v k xs) (hown' : w1.ownsRow n₁ e sz v' m ys) (hgrow : (W.alloc tmp).grownBy w1 v.ownBlock) :
    Below n₁ W w1 ∧ Boxed w1 B t v ∧ KeepsOthers W w1 := by
  have hlt : ∀ j, v.ownBlock = some j → n₁ ≤ j := fun j e => (hrow.lt j e).1
  have hb : Below n₁ W w1 := ((Below.refl n₁ W).alloc hn tmp).grown hgrow (by simp; omega) hlt
  refine ⟨hb, (hb.block B hB).trans hv, ?_⟩
  refine (KeepsOthers.alloc W tmp).trans (KeepsOthers.of_grownBy hgrow fun j o ej hj => ?_)
  rcases (hrow.alloc tmp).2 with ⟨rfl, _⟩ | ⟨g, cap, cur, rfl, _, hgb, _⟩
  · simp [Value.ownBlock] at ej
  · obtain rfl : g = j := by simpa [Value.ownBlock] using ej
    rw [hgb] at hj; cases hj; rfl
theorem cell_three_new (w : World) (a b c : Value) (t : TypeId) : ∀ j u, [a, b, c][j]? = some u → (w.alloc (.cells #[a, b, c] t)).cell? ((⟨w.heap.size, 0, none⟩ : Addr).add j) = some u := by
  intro j u hj
  match j, hj with
  | 0, hj => simp at hj; subst hj; simp [Addr.add]
  | 1, hj => simp at hj; subst hj; simp [Addr.add]
  | 2, hj => simp at hj; subst hj; simp [Addr.add]
  | j + 3, hj => simp at hj

theorem kps_app {W w2 : World} {n₁ B : Nat} {v v' : Value} {k : Nat} {xs : List Value} {tmp : Obj} (hv : Boxed W B 31 v) (hrow : W.ownsRow n₁ 38 3 v k xs) (hgrow : (W.alloc tmp).grownBy w2 v.ownBlock) : KpS W (w2.setCell ⟨B, 0, none⟩ v') := by
  refine ⟨by have := hgrow.size; simp at this ⊢; omega, fun j u t fr hj ht => ?_⟩
  have hlt := (Array.getElem?_eq_some_iff.1 hj).1
  have hjB : j ≠ B := fun e => by
    subst e
    rw [show W.heap[j]? = _ from hv] at hj
    injection hj with hj
    injection hj with _ h2
    subst h2
    cases ht
  have hjr : some j ≠ v.ownBlock := fun e => by
    rcases hrow.2 with ⟨rfl, _⟩ | ⟨g, cap, cur, rfl, _, hg, _⟩
    · simp [Value.ownBlock] at e
    · obtain rfl : j = g := by simpa [Value.ownBlock] using e
      rw [hg] at hj
      injection hj with hj
      injection hj with _ h2
      subst h2
      cases ht
  rw [Below.heap_setCell _ _ _ _ hjB, hgrow.block j (by simp; omega) hjr, Below.heap_alloc _ _ _ hlt]
  exact hj

theorem of_func (b : Nat) (k : ByteArray) (w : World) : Calls Tryz.prog 44 #[.pointer (some ⟨b, 0, none⟩), .string k] w fun e w' => e = .returned (.func (.func 64) #[] #[.pointer (some ⟨w.heap.size, 0, none⟩), .pointer (some ⟨w.heap.size + 1, 0, none⟩)]) ∧ w' = (w.alloc (.cells #[.pointer (some ⟨b, 0, none⟩)] 25)).alloc (.cells #[.string k] 9) := by
  go_enter Tryz.func44, Tryz.ntmps44
  go_wp2_with fail
  go_ret
  exact ⟨rfl, rfl⟩

variable {w : World} {b : Nat} {O : Nat → Prop} {S : List Et} {m : Nat}

/-- a new row of entries -/
def RowR (l : List Et) (w : World) (e : Ending) (w' : World) : Prop := ∃ v, e = .returned v ∧ w'.ownsRow w.heap.size 38 3 v l.length (flatE l) ∧ Below w.heap.size w w'

set_option maxRecDepth 100000 in
set_option maxHeartbeats 4000000 in
theorem of_any (h : Bag w b O S m) (hm : m ≤ 1000000) (k : ByteArray) (hk : k.size ≤ maxLen) (many : Int) (hmany : ((ofS S k).length : Int) ≤ many) : Calls Tryz.prog 25 #[.pointer (some ⟨b, 0, none⟩), .string k, .int .i64 many] w (RowR (ofS S k) w) := by
  have H := Lib.hid h
  have hlenS : (ofS S k).length ≤ 1000000 := by
    obtain ⟨mr, mp, hb, sv, Ks, E, H, h1, -, h3, h4, -, -⟩ := h
    have := h1.ix.len
    have h2 := (of_perm (k := k) h3).length_eq
    have h5 : (under E k).length ≤ E.length := List.length_filter_le _ _
    simp at h2
    omega
  clear h
  refine (callsIn_wide (n := 9)).1 ?_
  refine callsIn_of_wp_marks Tryz.func25 rfl trivial ?_ rfl
  simp only [Tryz.ntmps25, List.size_toArray, List.length_cons, List.length_nil, Nat.reduceAdd, Nat.reduceSub, Array.replicate_succ, Array.replicate_zero, List.push_toArray, List.append_toArray, List.nil_append, List.cons_append]
  refine wpIn_wide.2 ?_
  have qf : ∀ (w : World) (ca : Array Value), (binOp .eql 96 (.func (.func 64) #[] ca) .nilFunc).run Tryz.prog w = .ok (.bool false) w := fun w ca => run_eql_func_nil w 96 _ _ _ _ _ ca Tryz.underlying96
  go_wp2_with (go_at_call 44; refine (of_func b k _).mono ?_; rintro e w1 ⟨rfl, hw1⟩)
  have b0 : Boxed w1 w.heap.size 9 (.string k) := by
    rw [hw1]; exact (((((Boxed.new w 9 _).alloc _).alloc _).alloc _).alloc _).alloc _
  have b1 : Boxed w1 (w.heap.size + 1) 3 (.int .i64 many) := by
    rw [hw1]; exact ((((Boxed.new2 _ 3 _ _ (by simp)).alloc _).alloc _).alloc _).alloc _
  have b2 : Boxed w1 (w.heap.size + 1 + 1) 31 (.slice none 0 0) := by
    rw [hw1]; exact (((Boxed.new2 _ 31 _ _ (by simp)).alloc _).alloc _).alloc _
  have b3 : Boxed w1 (w.heap.size + 1 + 1 + 1) 31 (.slice none 0 0) := by
    rw [hw1]; exact ((Boxed.new2 _ 31 _ _ (by simp)).alloc _).alloc _
  have b4 : Boxed w1 (w.heap.size + 1 + 1 + 1 + 1) 25 (.pointer (some ⟨b, 0, none⟩)) := by
    rw [hw1]; exact (Boxed.new2 _ 25 _ _ (by simp)).alloc _
  have b5 : Boxed w1 (w.heap.size + 1 + 1 + 1 + 1 + 1) 9 (.string k) := by
    rw [hw1]; exact Boxed.new2 _ 9 _ _ (by simp)
  have hB1 : Below w.heap.size w w1 := by
    rw [hw1]; exact ((((((Below.refl _ w).alloc (Nat.le_refl _) _).alloc (by simp) _).alloc (by simp; omega) _).alloc (by simp; omega) _).alloc (by simp; omega) _).alloc (by simp; omega) _
  have hz1 : w1.heap.size = w.heap.size + 6 := by rw [hw1]; simp
  have HSEQ := Lib.hid (of_seq 8 (by decide) (H.out.below hB1) hm k hk b4 b5)
  have HB1 := Lib.hid hB1
  have HZ := Lib.hid hz1
  have HB := Lib.hid (And.intro b0 (And.intro b1 (And.intro b2 b3)))
  have hfl : Hid (∀ x ∈ ofS S k, x.1 = k) := Lib.hid fun x hx => by simpa using (List.mem_filter.1 hx).2
  rw [← hw1]
  clear hw1 b0 b1 b2 b3 b4 b5 hB1 hz1
  obtain ⟨i0, hi, hy0, hy1, hy2⟩ := info_parts info38
  refine wpIn_wide.1 (?_ : Code.wpIn Fence.wide 9 Tryz.prog _ _ _ _)
  refine wpIn_rangeFunc_X rfl (by decide) (gf := 64) (lb := #[.pointer (some ⟨w.heap.size + 1 + 1 + 1 + 1, 0, none⟩), .pointer (some ⟨w.heap.size + 1 + 1 + 1 + 1 + 1, 0, none⟩)]) rfl trivial (enters_of Tryz.func64 (by kernel_rfl) rfl)
    HSEQ.out KpS.trans (fun W l o o' _ hl ho _ => KpS.putObj W l o o' hl ho) (Below.refl _ _) (fun _ => rfl)
    (fun pre W => (((∃ v, Boxed W (w.heap.size + 1 + 1 + 1) 31 v ∧ W.ownsRow w1.heap.size 38 3 v pre.length (flatE pre) ∧ True) ∧ Boxed W w.heap.size 9 (.string k) ∧ Boxed W (w.heap.size + 1) 3 (.int .i64 many) ∧ Boxed W (w.heap.size + 1 + 1) 31 (.slice none 0 0) ∧ w1.heap.size ≤ W.heap.size) ∧ Below w.heap.size w W))
    (fun _ _ _ => False)
    (OwnFrom.and (OwnFrom.and (Own.from (holdsRow_own w1.heap.size (w.heap.size + 1 + 1 + 1) 31 38 3 (fun pre : List Et => pre.length) (fun pre => flatE pre) (fun _ _ => True)) _) (OwnFrom.and (Own.from (boxed_own _ _ (fun _ => _)) _) (OwnFrom.and (Own.from (boxed_own _ _ (fun _ => _)) _) (OwnFrom.and (Own.from (boxed_own _ _ (fun _ => _)) _) (fun _ _ _ _ hs hg _ => Nat.le_trans hs hg.size))))) (ownFrom_below (Nat.le_refl _) HB1.out.size))
    (fun c s A B row h => h.elim)
    ⟨⟨⟨_, HB.out.2.2.2, World.ownsRow_nil _ _ _ _, trivial⟩, HB.out.1, HB.out.2.1, HB.out.2.2.1, Nat.le_refl _⟩, HB1.out⟩
    (fun x a' W => a' = { tmps := #[.pointer (some ⟨b, 0, none⟩), .string k, .int .i64 many, undef, .pointer (some ⟨w.heap.size, 0, none⟩), .pointer (some ⟨w.heap.size + 1, 0, none⟩), .pointer (some ⟨w.heap.size + 1 + 1, 0, none⟩), .pointer (some ⟨w.heap.size + 1 + 1 + 1, 0, none⟩), .func (.func 64) #[] #[.pointer (some ⟨w.heap.size + 1 + 1 + 1 + 1, 0, none⟩), .pointer (some ⟨w.heap.size + 1 + 1 + 1 + 1 + 1, 0, none⟩)], .int .i64 x.2.1, .int .i64 x.2.2, .pointer (some ⟨b, 0, none⟩), .string k, .func (.func 64) #[] #[.pointer (some ⟨w.heap.size + 1 + 1 + 1 + 1, 0, none⟩), .pointer (some ⟨w.heap.size + 1 + 1 + 1 + 1 + 1, 0, none⟩)], .func (.func 64) #[] #[.pointer (some ⟨w.heap.size + 1 + 1 + 1 + 1, 0, none⟩), .pointer (some ⟨w.heap.size + 1 + 1 + 1 + 1 + 1, 0, none⟩)], .bool false, .func (.func 64) #[] #[.pointer (some ⟨w.heap.size + 1 + 1 + 1 + 1, 0, none⟩), .pointer (some ⟨w.heap.size + 1 + 1 + 1 + 1 + 1, 0, none⟩)], .int .i64 x.2.1, .int .i64 x.2.2, undef, undef, undef, undef, undef, undef, undef, undef, undef, undef, undef, undef, undef], defers := [] }) (fun x a' _ A B row h _ _ => h) ?assign ?body ?done ?stop
  case assign =>
    intro l1 pre x W' K hI hpx hK
    have HK := Lib.hid hK
    have HI' := Lib.hid hI
    clear hK hI
    simp only [encO]
    gi_wp2
    exact HK.out _ _ (KeepsFrom.refl _ _) (KpS.refl _) HI'.out rfl
  case body =>
    rintro l1 pre x _ W hwl hloop hpx ⟨⟨⟨v, hv, hrow, _⟩, hk0, hm0, hr0, hsz⟩, hB⟩ rfl
    have hpl : pre.length < (ofS S k).length := by have := hpx.length_le; simp at this; omega
    have hxk : x.1 = k := hfl.out x (hpx.subset (by simp))
    have hc := hv.cell
    have hck := hk0.cell
    have hcm := hm0.cell
    have HV := Lib.hid hv
    have HR := Lib.hid (And.intro hk0 (And.intro hm0 hr0))
    have HBW := Lib.hid hB
    obtain ⟨A, q, rfl⟩ := row_form2 hrow
    have HROW := Lib.hid hrow
    clear hv hk0 hm0 hr0 hB hrow
    have hge : ¬ many ≤ (pre.length : Int) := by omega
    gi_wp2_with (gi_at_builtin; refine wpListIn_append_own _ rfl _ _ 31 rfl w1.heap.size 38 i0 (.agg #[.string ⟨#[]⟩, .int .i64 0, .int .i64 0]) 3 32 Tryz.underlying31 hi hy0 hy1 hy2 rfl (by decide) _ _ _ rfl (HROW.out.alloc _) ⟨W.heap.size, 0, none⟩ 1 1 [.string k, .int .i64 x.2.1, .int .i64 x.2.2] rfl rfl (cell_three_new _ _ _ _ _) (by simp [Value.oneCell']) (by unfold maxLen; omega) (by omega) (by simp; omega) ?_; intro v' w2 hown' hgrow _; obtain ⟨g', cap', rfl⟩ := ownsRow_succ hown'; obtain ⟨hb2, hv1, hk2⟩ := app_box HV.out (by have := HZ.out; omega) hsz HROW.out hown' hgrow; have hkp := kps_app (v' := .slice (some ⟨g', 0, none⟩) (pre.length + 1) cap') HV.out HROW.out hgrow; have hc1 := hv1.cell; have hf1 := hv1.frozen)
    have hz := HZ.out
    have h1 := hv1.set (.slice (some ⟨g', 0, none⟩) (pre.length + 1) cap')
    have h3 := ownsRow_setCell_below hown' (a := ⟨w.heap.size + 1 + 1 + 1, 0, none⟩) (by simp; omega) (.slice (some ⟨g', 0, none⟩) (pre.length + 1) cap')
    have hfx : flatE (pre ++ [x]) = flatE pre ++ [.string k, .int .i64 x.2.1, .int .i64 x.2.2] := by rw [flatE_app, flatE_cons, hxk]; rfl
    refine ⟨(hk2.trans (KeepsOthers.setCell _ _ _)).from _, hkp, ⟨⟨_, h1, by rw [hfx, List.length_append]; exact h3⟩, (Boxed.belowB HR.out.1 hb2 (by omega)).other (by omega) _, (Boxed.belowB HR.out.2.1 hb2 (by omega)).other (by omega) _, (Boxed.belowB HR.out.2.2 hb2 (by omega)).other (by omega) _, ?_⟩, ?_⟩
    · simp only [World.size_setCell]
      exact Nat.le_trans hsz hb2.size
    · exact (HBW.out.trans (hb2.mono (by omega))).setCell (by simp; omega) _
  case done =>
    rintro D W hD ⟨⟨⟨v, hv, hrow, _⟩, hk0, hm0, hr0, hsz⟩, hB⟩ hK
    obtain ⟨A, q, rfl⟩ := row_form2 hrow
    have hc := hv.cell
    have hcr := hr0.cell
    have hfr := hr0.frozen
    have HR := Lib.hid hr0
    have HBW := Lib.hid hB
    have HROW := Lib.hid hrow
    clear hv hk0 hm0 hr0 hB hrow
    go_wp2_with fail
    have hK' := (KeepsOthers.setCell W ⟨w.heap.size + 1 + 1, 0, none⟩ (.slice A (ofS S k).length q)).same D _ hK rfl
    refine ⟨by simp, .inl ⟨_, _, rfl, run_takeDeferred hK', ?_⟩⟩
    have hz := HZ.out
    have hrow2 := ownsRow_putObj (ownsRow_setCell_below HROW.out (a := ⟨w.heap.size + 1 + 1, 0, none⟩) (by simp; omega) (.slice A (ofS S k).length q)) (.deferred none) hK' rfl
    have hc5 := cell_kept (HR.out.set (.slice A (ofS S k).length q)).cell (grownBy_putObj' _ D (.deferred none)) (fun r e => by cases e; exact ⟨_, hK', rfl⟩)
    refine ⟨.slice A (ofS S k).length q, by simp [results, Tryz.f25, go_sem, hc5], .slice A (ofS S k).length q, rfl, ?_, (HBW.out.setCell (p := ⟨w.heap.size + 1 + 1, 0, none⟩) (by simp; omega) _).trans (belowK_b (w := w1) (by omega) _ D _ _ hD hK' rfl rfl)⟩
    exact ownsRow_base hrow2 (by omega)
  case stop => exact fun _ _ _ _ _ _ h _ => h.elim
end Go.Proofs.YtfcdgfjpmcapkaaGreat
