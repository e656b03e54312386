/- The law's list of all that a book tells. -/
import Derived.Test.YtepelfigcoohiaaL
namespace Go.Proofs.Ytepelfigcoohiaa
open Go.ChangeShapes Go.WideShapes Go.ChangeAt Go.RowKit Go.Maps Go.Shelf
set_option linter.unusedVariables false

attribute [local go_sem] Oper.semAt_some

theorem all_func (b : Nat) (w : World) : Calls Try.prog 38 #[.pointer (some ⟨b, 0, none⟩)] w fun e w' => e = .returned (.func (.func 40) #[] #[.pointer (some ⟨w.heap.size, 0, none⟩)]) ∧ w' = w.alloc (.cells #[.pointer (some ⟨b, 0, none⟩)] 26) := by
  go_enter Try.func38, Try.ntmps38
  go_wp2
  go_ret
  exact ⟨rfl, rfl⟩

theorem run_equalIn_func_nil {P : Program} (w : World) (d : Nat) (t : TypeId) (ps rs : Array TypeId) (vd : Bool) (fn : Fn) (fi ca : Array Value) (h : P.underlying t = some (.func ps rs vd)) :
    (Op.equalIn (d + 1) t (.func fn fi ca) .nilFunc).run P w = .ok false w := by
  simp [Op.equalIn, run_underlying h]

theorem run_eql_func_nil {P : Program} (w : World) (t : TypeId) (ps rs : Array TypeId) (vd : Bool) (fn : Fn) (fi ca : Array Value) (h : P.underlying t = some (.func ps rs vd)) :
    (binOp .eql t (.func fn fi ca) .nilFunc).run P w = .ok (.bool false) w := by
  simp only [binOp]
  simp [Op.equal, Op.maxDepth, run_equalIn_func_nil w 9999 t ps rs vd fn fi ca h]

theorem Boxed.below {w w' : World} {B : Nat} {t : TypeId} {v : Value} (h : Boxed w B t v) (hb : Below w.heap.size w w') : Boxed w' B t v := (hb.block B h.lt).trans h
theorem Boxed.belowB {n : Nat} {w w' : World} {B : Nat} {t : TypeId} {v : Value} (h : Boxed w B t v) (hb : Below n w w') (hn : B < n) : Boxed w' B t v := (hb.block B hn).trans h
theorem Boxed.new2 (w : World) (t : TypeId) (v : Value) (n : Nat) (hn : w.heap.size = n) : Boxed (w.alloc (.cells #[v] t)) n t v := by subst hn; exact Boxed.new w t v

/-- blocks below hi lie as they lay -/
def KpA (hi : Nat) (W W' : World) : Prop := ∀ b, b < hi → W'.heap[b]? = W.heap[b]?

theorem row_form {w : World} {base e size n : Nat} {v : Value} {xs : List Value} (h : w.ownsRow base e size v n xs) : ∃ A q c, v = .slice A q c := by
  rcases h.2 with ⟨rfl, _⟩ | ⟨g, cap, cur, rfl, _⟩
  · exact ⟨_, _, _, rfl⟩
  · exact ⟨_, _, _, rfl⟩

theorem row_form2 {w : World} {base e size n : Nat} {v : Value} {xs : List Value} (h : w.ownsRow base e size v n xs) : ∃ A c, v = .slice A n c := by
  rcases h.2 with ⟨rfl, rfl⟩ | ⟨g, cap, cur, rfl, _⟩
  · exact ⟨_, _, rfl⟩
  · exact ⟨_, _, rfl⟩

theorem ownsRow_base {w : World} {base base' e size n : Nat} {v : Value} {xs : List Value} (h : w.ownsRow base e size v n xs) (hb : base' ≤ base) : w.ownsRow base' e size v n xs := by
  refine ⟨h.1, ?_⟩
  rcases h.2 with h2 | ⟨g, cap, cur, hv, hg, r⟩
  · exact .inl h2
  · exact .inr ⟨g, cap, cur, hv, Nat.le_trans hb hg, r⟩

theorem app_box {W w1 : World} {n₁ B : Nat} {t : TypeId} {v v' : Value} {k m : Nat} {xs ys : List Value} {tmp : Obj}
    (hv : Boxed W B t v) (hB : B < n₁) (hn : n₁ ≤ W.heap.size) (hrow : W.ownsRow n₁ 9 1 v k xs) (hown' : w1.ownsRow n₁ 9 1 v' m ys) (hgrow : (W.alloc tmp).grownBy w1 v.ownBlock) :
    Below n₁ W w1 ∧ Boxed w1 B t v ∧ KeepsOthers W w1 := by
  have hlt : ∀ j, v.ownBlock = some j → n₁ ≤ j := fun j e => (hrow.lt j e).1
  have hb : Below n₁ W w1 := ((Below.refl n₁ W).alloc hn tmp).grown hgrow (by simp; omega) hlt
  refine ⟨hb, (hb.block B hB).trans hv, ?_⟩
  refine (KeepsOthers.alloc W tmp).trans (KeepsOthers.of_grownBy hgrow fun j o ej hj => ?_)
  rcases (hrow.alloc tmp).2 with ⟨rfl, _⟩ | ⟨g, cap, cur, rfl, _, hgb, _⟩
  · simp [Value.ownBlock] at ej
  · obtain rfl : g = j := by simpa [Value.ownBlock] using ej
    rw [hgb] at hj; cases hj; rfl

/-- the texts that were gone through, as values -/
def vs (pre : List (ByteArray × Nat)) : List Value := pre.map fun x => Value.string x.1
theorem vs_zip (L : List ByteArray) : vs L.zipIdx = L.map Value.string := by
  show List.map (Value.string ∘ Prod.fst) L.zipIdx = _
  rw [← List.map_map]
  congr 1
  simp
theorem vs_snoc (pre : List (ByteArray × Nat)) (x : ByteArray × Nat) : vs (pre ++ [x]) = vs pre ++ [.string x.1] := by simp [vs]
theorem vs_len (pre : List (ByteArray × Nat)) : (vs pre).length = pre.length := by simp [vs]

/-- how a loop over all would be left ahead of its end -/
def Bad (m : Int) (pre : List (ByteArray × Nat)) : Prop := ∃ q x, pre = q ++ [x] ∧ (x.2 ≠ q.length ∨ m ≤ q.length)

/-- the results of all -/
def AllR (L : List ByteArray) (w : World) (e : Ending) (w' : World) : Prop := ∃ v, e = .returned v ∧ w'.ownsRow w.heap.size 9 1 v L.length (L.map Value.string) ∧ Below w.heap.size w w'

set_option maxRecDepth 100000 in
set_option maxHeartbeats 2000000 in
theorem all_any {w : World} {b m0 : Nat} {sv : Value} {L : List ByteArray} (h : Bk w b m0 sv L) (m : Int) (hm1 : (L.length : Int) ≤ m) (hm2 : m ≤ 1000) :
    Calls Try.prog 27 #[.pointer (some ⟨b, 0, none⟩), .int .i64 m] w (AllR L w) := by
  have H := Lib.hid h
  have HM := Lib.hid hm1
  clear h hm1
  refine (callsIn_wide (n := 9)).1 ?_
  refine callsIn_of_wp_marks Try.func27 rfl trivial ?_ rfl
  simp only [Try.ntmps27, List.size_toArray, List.length_cons, List.length_nil, Nat.reduceAdd, Nat.reduceSub, Array.replicate_succ, Array.replicate_zero, List.push_toArray, List.append_toArray, List.nil_append, List.cons_append]
  gi_wp2
  refine ⟨trivial, ?_⟩
  refine (callsIn_wide.2 (all_func b _)).mono ?_
  rintro e w1 ⟨rfl, hw1⟩
  simp only [World.size_alloc] at hw1 ⊢
  have hb1 : Below (((w.alloc (.cells #[.int .i64 m] 3)).alloc (.cells #[.slice none 0 0] 30)).alloc (.cells #[.slice none 0 0] 30)).heap.size (((w.alloc (.cells #[.int .i64 m] 3)).alloc (.cells #[.slice none 0 0] 30)).alloc (.cells #[.slice none 0 0] 30)) w1 := by
    rw [hw1]; exact (Below.refl _ _).alloc (Nat.le_refl _) _
  have hz1 : w1.heap.size = w.heap.size + 4 := by rw [hw1]; simp
  have b1 : Boxed w1 w.heap.size 3 (.int .i64 m) := Boxed.below (((Boxed.new w 3 (.int .i64 m)).alloc _).alloc _) hb1
  have b2 : Boxed w1 (w.heap.size + 1) 30 (.slice none 0 0) := Boxed.below ((Boxed.new2 _ 30 (.slice none 0 0) _ (by simp)).alloc _) hb1
  have b3 : Boxed w1 (w.heap.size + 1 + 1) 30 (.slice none 0 0) := Boxed.below (Boxed.new2 _ 30 (.slice none 0 0) _ (by simp)) hb1
  have b4 : Boxed w1 (w.heap.size + 1 + 1 + 1) 26 (.pointer (some ⟨b, 0, none⟩)) := by rw [hw1]; exact Boxed.new2 _ 26 _ _ (by simp)
  have hB1 : Below w.heap.size w w1 := ((((Below.refl _ w).alloc (Nat.le_refl _) _).alloc (by simp) _).alloc (by simp; omega) _).trans (hb1.mono (by simp; omega))
  have HB4 := Lib.hid b4
  have HBK := Lib.hid (H.out.below hB1)
  have HZ1 := Lib.hid hz1
  have hz2 : w.heap.size + 3 < w1.heap.size := by omega
  clear hw1 hb1 hz1 b4
  have c1 := b1.cell
  have c2 := b2.cell
  have c3 := b3.cell
  have f2 := b2.frozen
  have qf : ∀ (w : World) (ca : Array Value), (binOp .eql 61 (.func (.func 40) #[] ca) .nilFunc).run Try.prog w = .ok (.bool false) w := fun w ca => run_eql_func_nil w 61 _ _ _ _ _ ca Try.underlying61
  obtain ⟨i0, hi, hz0, hz1, hz3⟩ := info_parts info9
  gi_wp2
  refine wpIn_rangeFunc_ownG rfl (by decide) (gf := 40) (lb := #[.pointer (some ⟨w.heap.size + 1 + 1 + 1, 0, none⟩)]) rfl trivial (enters_of Try.func40 (by kernel_rfl) rfl)
      (S := fun ys => ys = L.zipIdx) (Sp := fun pre => pre <+: L.zipIdx) (N := L.zipIdx.length) (w0 := w1) (Kp := KpA w.heap.size) (encs := enc2)
      ?seq (fun h k b h1 => (k b h1).trans (h b h1)) ?kb (Below.refl _ _) (fun _ => rfl)
      (fun pre W => ((∃ v, Boxed W (w.heap.size + 1 + 1) 30 v ∧ W.ownsRow w1.heap.size 9 1 v pre.length (vs pre) ∧ True) ∧ Boxed W w.heap.size 3 (.int .i64 m) ∧ Boxed W (w.heap.size + 1) 30 (.slice none 0 0) ∧ w1.heap.size ≤ W.heap.size) ∧ Below w.heap.size w W)
      (fun c pre W => Bad m pre)
      (OwnFrom.and (OwnFrom.and (Own.from (holdsRow_own w1.heap.size (w.heap.size + 1 + 1) 30 9 1 (fun pre : List (ByteArray × Nat) => pre.length) (fun pre => vs pre) (fun _ _ => True)) _) (OwnFrom.and (Own.from (boxed_own _ _ (fun _ => _)) _) (OwnFrom.and (Own.from (boxed_own _ _ (fun _ => _)) _) (fun _ _ _ _ hs hg _ => Nat.le_trans hs hg.size)))) (ownFrom_below (Nat.le_refl _) (by omega)))
      (fun c => ownFrom_pure _ (fun pre : List (ByteArray × Nat) => Bad m pre))
      ⟨⟨⟨_, b3, World.ownsRow_nil _ _ _ _, trivial⟩, b1, b2, Nat.le_refl _⟩, hB1⟩
      (fun x => { tmps := #[.pointer (some ⟨b, 0, none⟩), .int .i64 m, undef, .pointer (some ⟨w.heap.size, 0, none⟩), .pointer (some ⟨w.heap.size + 1, 0, none⟩), .pointer (some ⟨w.heap.size + 1 + 1, 0, none⟩),
        .func (.func 40) #[] #[.pointer (some ⟨w.heap.size + 1 + 1 + 1, 0, none⟩)], .int .i64 x.2, .string x.1, .pointer (some ⟨b, 0, none⟩),
        .func (.func 40) #[] #[.pointer (some ⟨w.heap.size + 1 + 1 + 1, 0, none⟩)], .func (.func 40) #[] #[.pointer (some ⟨w.heap.size + 1 + 1 + 1, 0, none⟩)], .bool false,
        .func (.func 40) #[] #[.pointer (some ⟨w.heap.size + 1 + 1 + 1, 0, none⟩)], .int .i64 x.2, .string x.1, undef, undef, undef, undef, undef, undef, undef, undef, undef, undef, undef, undef, undef, undef, undef, undef], defers := [] }) ?assign ?body ?done ?stop
  case seq =>
    exact fun l J Jx W hW _ _ hY h0 => all1_in _ (by decide) l _ b m0 sv L (KpA w.heap.size) J Jx (by have := HM.out; omega) (fun A B hk g hg => hk g (H.out.ltr g hg)) (fun h k b h1 => (k b h1).trans (h b h1)) hY W (HBK.out.below hW) ((hW.cell (p := ⟨w.heap.size + 1 + 1 + 1, 0, none⟩) (by have := HZ1.out; simp; omega)).trans HB4.out.cell) h0
  case kb =>
    intro W l o o' hl h _ _ b h1
    exact World.putObj_heap_other (by have := HZ1.out; omega)
  case assign =>
    intro l x W K hK
    simp only [enc2]
    gi_wp2
    exact hK
  case body =>
    rintro l pre ⟨s, i⟩ W ⟨⟨⟨v, hv, hrow, _⟩, hm, hr, hsz⟩, hB⟩ _
    simp only []
    have hc := hv.cell
    have hcm := hm.cell
    have hcr := hr.cell
    have hfr := hr.frozen
    have HV := Lib.hid hv
    have HR := Lib.hid hr
    have HMM := Lib.hid hm
    have HB := Lib.hid hB
    obtain ⟨A, q, rfl⟩ := row_form2 hrow
    clear hv hr hm hB
    by_cases hi2 : i = pre.length
    · subst hi2
      by_cases hlt : (pre.length : Int) < m
      · have hpl : pre.length ≤ 1000 := by omega
        gi_wp2_with (gi_at_builtin; refine wpListIn_append_own _ rfl _ _ 30 rfl w1.heap.size 9 i0 (.string ⟨#[]⟩) 1 16 Try.underlying30 hi hz0 hz1 hz3 rfl (by decide) _ _ _ rfl (hrow.alloc _) ⟨W.heap.size, 0, none⟩ 1 1 [.string s] rfl rfl (cell_one_new _ _ _) (by simp [Value.oneCell']) (by unfold maxLen; omega) (by omega) (by simp; omega) ?_; intro v' w2 hown' hgrow _; obtain ⟨g', cap', rfl⟩ := ownsRow_succ hown'; obtain ⟨hb2, hv1, hk2⟩ := app_box HV.out (by omega) hsz hrow hown' hgrow; have hc1 := hv1.cell; have hf1 := hv1.frozen)
        have h1 := (hv1.set (.slice (some ⟨g', 0, none⟩) (pre.length + 1) cap'))
        have h3 := ownsRow_setCell_below hown' (a := ⟨w.heap.size + 1 + 1, 0, none⟩) (by simp; omega) (.slice (some ⟨g', 0, none⟩) (pre.length + 1) cap')
        refine ⟨(hk2.trans (KeepsOthers.setCell _ _ _)).from _, ?_, ⟨⟨_, h1, by rw [vs_snoc]; simpa using h3, trivial⟩, (Boxed.belowB HMM.out hb2 (by omega)).other (by omega) _, (Boxed.belowB HR.out hb2 (by omega)).other (by omega) _, ?_⟩, ?_⟩
        · intro b k1
          rw [Below.heap_setCell _ _ _ _ (by simp; omega)]
          exact hb2.block b (by omega)
        · simp only [World.size_setCell]
          exact Nat.le_trans hsz hb2.size
        · exact (HB.out.trans (hb2.mono (by omega))).setCell (by simp; omega) _
      · have hge : m ≤ (pre.length : Int) := by omega
        have HGE := Lib.hid hge
        gi_wp2
        exact ⟨(KeepsOthers.setCell _ _ _).from _, pre, (s, pre.length), rfl, .inr HGE.out⟩
    · have hne : ((i : Int) != (pre.length : Int)) = true := by rw [bne_iff_ne]; omega
      have HI2 := Lib.hid hi2
      clear hi2
      gi_wp2
      exact ⟨(KeepsOthers.setCell _ _ _).from _, pre, (s, i), rfl, .inl HI2.out⟩
  case done =>
    rintro D ys W hD rfl ⟨⟨⟨v, hv, hrow, _⟩, hm, hr, hsz⟩, hB⟩ hK
    rw [vs_zip, List.length_zipIdx] at hrow
    obtain ⟨A, q, rfl⟩ := row_form2 hrow
    have hc := hv.cell
    have hcr := hr.cell
    have hfr := hr.frozen
    have HR := Lib.hid hr
    gi_wp2
    have hK' := (KeepsOthers.setCell W ⟨w.heap.size + 1, 0, none⟩ (.slice A L.length q)).same D _ hK rfl
    refine ⟨by simp, .inl ⟨_, _, rfl, run_takeDeferred hK', ?_⟩⟩
    have hrow2 := ownsRow_putObj (ownsRow_setCell_below hrow (a := ⟨w.heap.size + 1, 0, none⟩) (by simp; omega) (.slice A L.length q)) (.deferred none) hK' rfl
    have hc5 := cell_kept (HR.out.set (.slice A L.length q)).cell (grownBy_putObj' _ D (.deferred none)) (fun r e => by cases e; exact ⟨_, hK', rfl⟩)
    refine ⟨.slice A L.length q, by simp [results, Try.f27, go_sem, hc5], .slice A L.length q, rfl, ?_, (hB.setCell (p := ⟨w.heap.size + 1, 0, none⟩) (by simp) _).trans (belowK_b (w := w1) (by omega) _ D _ _ hD hK' rfl rfl)⟩
    exact ownsRow_base (base' := w.heap.size) hrow2 (by have := HZ1.out; omega)
  case stop =>
    rintro D c pre W hD hpre ⟨q, ⟨s, i⟩, rfl, hbad⟩ hK
    exfalso
    have hlen := hpre.length_le
    simp at hlen
    have hget : L.zipIdx[q.length]? = some (s, i) := by
      obtain ⟨t, ht⟩ := hpre
      rw [← ht]
      simp
    rw [List.getElem?_zipIdx] at hget
    have := HM.out
    rcases hbad with hb | hb
    · cases hl : L[q.length]? with
      | none => rw [hl] at hget; simp at hget
      | some y => rw [hl] at hget; simp at hget; exact hb hget.2.symm
    · omega
end Go.Proofs.Ytepelfigcoohiaa
