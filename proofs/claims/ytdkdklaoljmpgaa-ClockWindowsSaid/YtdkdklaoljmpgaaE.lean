/- The law's first: the first closes, so many at most. -/
import Derived.Test.YtdkdklaoljmpgaaD
namespace Go.Proofs.Ytdkdklaoljmpgaa
open Go.ChangeShapes Go.WideShapes Go.ChangeAt Go.RowKit Go.Shelf

attribute [local go_sem] Oper.semAt_some

/-- the results of first: a list, in memory of its own -/
def Gives (l : List Int) (w : World) (e : Ending) (w' : World) : Prop := ∃ v, e = .returned v ∧ IR w' v l ∧ Below w.heap.size w w'

/-- the list that first tells -/
def firstL (f t s m : Int) : List Int := (stp (nextV f s).1 s (countV f t s).1.toNat).take m.toNat

theorem count_nn (f t s : Int) : 0 ≤ (countV f t s).1 := by
  unfold countV; split <;> simp <;> omega

theorem cls_bd (f t s : Int) : (countV f t s).1.toNat ≤ 1099511627776 ∧ ∀ i : Nat, i < (countV f t s).1.toNat → 0 ≤ (i : Int) * s ∧ (i : Int) * s ≤ 1099511627776 ∧ 0 ≤ (nextV f s).1 ∧ (nextV f s).1 ≤ 1099511627776 := by
  by_cases hc : isMM f t && isW s
  · rw [Bool.and_eq_true] at hc
    obtain ⟨m1, m2, m3, m4⟩ := isMM_iff.1 hc.1
    obtain ⟨s1, s2⟩ := isW_iff.1 hc.2
    rw [countV_ok hc.1 hc.2]
    obtain ⟨u1, u2⟩ := upN_bd t (s := s) m4 s1
    obtain ⟨u3, u4⟩ := upN_bd f (s := s) m2 s1
    obtain ⟨u5, u6⟩ := upN_mul t (s := s) m4 s1
    obtain ⟨u7, u8⟩ := upN_mul f (s := s) m2 s1
    refine ⟨by simp only []; omega, fun i hi => ?_⟩
    simp only [] at hi
    have h1 : (i : Int) + 1 ≤ upN t s - upN f s := by omega
    have h2 : ((i : Int) + 1 + upN f s) * s ≤ upN t s * s := Int.mul_le_mul_of_nonneg_right (by omega) (by omega)
    have h3 : 0 ≤ (i : Int) * s := Int.mul_nonneg (by omega) (by omega)
    rw [Int.add_mul, Int.add_mul] at h2
    have h4 : 0 ≤ (upN f s + 1) * s := by rw [Int.add_mul]; omega
    have h5 : (upN f s + 1) * s ≤ 1099511627776 := by rw [Int.add_mul]; omega
    have hm : isM f = true := isM_iff.2 ⟨m1, m2⟩
    rw [nextV_ok hm hc.2 (isT_iff.2 ⟨h4, h5⟩)]
    exact ⟨h3, by omega, h4, h5⟩
  · have e : countV f t s = (0, 2) := by unfold countV; rw [if_neg hc]
    rw [e]
    exact ⟨by simp, fun i hi => by simp at hi⟩

theorem Boxed.below {w w' : World} {B : Nat} {t : TypeId} {v : Value} (h : Boxed w B t v) (hb : Below w.heap.size w w') : Boxed w' B t v := (hb.block B h.lt).trans h

theorem Boxed.belowB {n : Nat} {w w' : World} {B : Nat} {t : TypeId} {v : Value} (h : Boxed w B t v) (hb : Below n w w') (hn : B < n) : Boxed w' B t v := (hb.block B hn).trans h

theorem run_equalIn_func_nil {P : Program} (w : World) (d : Nat) (t : TypeId) (ps rs : Array TypeId) (vd : Bool) (fn : Fn) (fi ca : Array Value) (h : P.underlying t = some (.func ps rs vd)) :
    (Op.equalIn (d + 1) t (.func fn fi ca) .nilFunc).run P w = .ok false w := by
  simp [Op.equalIn, run_underlying h]

theorem run_eql_func_nil {P : Program} (w : World) (t : TypeId) (ps rs : Array TypeId) (vd : Bool) (fn : Fn) (fi ca : Array Value) (h : P.underlying t = some (.func ps rs vd)) :
    (binOp .eql t (.func fn fi ca) .nilFunc).run P w = .ok (.bool false) w := by
  simp only [binOp]
  simp [Op.equal, Op.maxDepth, run_equalIn_func_nil w 9999 t ps rs vd fn fi ca h]

theorem info3 : (Try.prog.info? 3).map (fun i => (i.zero, i.size, i.bytes)) = some (some (.int .i64 0), 1, 8) := by kernel_rfl

/-- blocks between hi and n₁ lie as they lay -/
def KpB (hi n₁ : Nat) (W W' : World) : Prop := ∀ b, hi < b → b < n₁ → W'.heap[b]? = W.heap[b]?
theorem KpB.cell {hi n₁ : Nat} {W W' : World} (h : KpB hi n₁ W W') {b : Nat} (h1 : hi < b) (h2 : b < n₁) : W'.cell? ⟨b, 0, none⟩ = W.cell? ⟨b, 0, none⟩ := World.cell?_of_block (a := ⟨b, 0, none⟩) (h b h1 h2)

theorem row_form {w : World} {base e size n : Nat} {v : Value} {xs : List Value} (h : w.ownsRow base e size v n xs) : ∃ A q c, v = .slice A q c := by
  rcases h.2 with ⟨rfl, _⟩ | ⟨g, cap, cur, rfl, _⟩
  · exact ⟨_, _, _, rfl⟩
  · exact ⟨_, _, _, rfl⟩

theorem app_box {W w1 : World} {n₁ B : Nat} {t : TypeId} {v v' : Value} {k m : Nat} {xs ys : List Value} {tmp : Obj}
    (hv : Boxed W B t v) (hB : B < n₁) (hn : n₁ ≤ W.heap.size) (hrow : W.ownsRow n₁ 3 1 v k xs) (hown' : w1.ownsRow n₁ 3 1 v' m ys) (hgrow : (W.alloc tmp).grownBy w1 v.ownBlock) :
    Below n₁ W w1 ∧ Boxed w1 B t v ∧ KeepsOthers W w1 := by
  have hlt : ∀ j, v.ownBlock = some j → n₁ ≤ j := fun j e => (hrow.lt j e).1
  have hb : Below n₁ W w1 := ((Below.refl n₁ W).alloc hn tmp).grown hgrow (by simp; omega) hlt
  refine ⟨hb, (hb.block B hB).trans hv, ?_⟩
  refine (KeepsOthers.alloc W tmp).trans (KeepsOthers.of_grownBy hgrow fun j o ej hj => ?_)
  rcases (hrow.alloc tmp).2 with ⟨rfl, _⟩ | ⟨g, cap, cur, rfl, _, hgb, _⟩
  · simp [Value.ownBlock] at ej
  · obtain rfl : g = j := by simpa [Value.ownBlock] using ej
    rw [hgb] at hj; cases hj; rfl

set_option maxRecDepth 100000 in
set_option maxHeartbeats 2000000 in
theorem first_none (f t s m : Int) (w : World) (hm0 : m < 1) : Calls Try.prog 23 #[.int .i64 f, .int .i64 t, .int .i64 s, .int .i64 m] w (Gives [] w) := by
  refine (callsIn_wide (n := 9)).1 ?_
  refine callsIn_of_wp_marks Try.func23 rfl trivial ?_ rfl
  simp only [Try.ntmps23, List.size_toArray, List.length_cons, List.length_nil, Nat.reduceAdd, Nat.reduceSub, Array.replicate_succ, Array.replicate_zero, List.push_toArray, List.append_toArray, List.nil_append, List.cons_append]
  gi_wp2
  refine ⟨trivial, ?_⟩
  refine (callsIn_wide.2 (closes_any f t s _)).mono ?_
  rintro e w1 ⟨bn, bf, bs, rfl, ⟨kn, ln⟩, ⟨kf, lf⟩, ⟨ks, ls⟩, cn, cf, cs, hb1⟩
  simp only [World.size_alloc] at kn kf ks
  have hz1 : w.heap.size + 3 ≤ w1.heap.size := by have := hb1.size; simp at this; omega
  have b1 : Boxed w1 w.heap.size 3 (.int .i64 m) := Boxed.below (((Boxed.new w 3 (.int .i64 m)).alloc _).alloc _) hb1
  have b2 : Boxed w1 (w.heap.size + 1) 30 (.slice none 0 0) := Boxed.below (((by have h := Boxed.new (w.alloc (.cells #[.int .i64 m] 3)) 30 (.slice none 0 0); rw [World.size_alloc] at h; exact h : Boxed _ (w.heap.size + 1) 30 (.slice none 0 0))).alloc _) hb1
  have b3 : Boxed w1 (w.heap.size + 1 + 1) 30 (.slice none 0 0) := Boxed.below (by have h := Boxed.new ((w.alloc (.cells #[.int .i64 m] 3)).alloc (.cells #[.slice none 0 0] 30)) 30 (.slice none 0 0); rw [World.size_alloc, World.size_alloc] at h; exact h) hb1
  have hB1 : Below w.heap.size w w1 := ((((Below.refl _ w).alloc (Nat.le_refl _) _).alloc (by simp) _).alloc (by simp; omega) _).trans (hb1.mono (by simp; omega))
  have c1 := b1.cell
  have c2 := b2.cell
  have c3 := b3.cell
  have f2 := b2.frozen
  gi_wp2
  have c4 := (b2.set (.slice none 0 0)).cell
  refine ⟨.slice none 0 0, ?_, .slice none 0 0, rfl, ⟨none, 0, rfl, fun h => by simp at h⟩, hB1.setCell (by simp) _⟩
  simp [results, Try.f23, go_sem, c4]

set_option maxRecDepth 100000 in
set_option maxHeartbeats 2000000 in
theorem first_some (f t s m a : Int) (N : Nat) (w : World) (hm1 : 1 ≤ m) (hm2 : m ≤ 1000) (hN : N ≤ 1099511627776)
    (hbd : ∀ i : Nat, i < N → 0 ≤ (i : Int) * s ∧ (i : Int) * s ≤ 1099511627776 ∧ 0 ≤ a ∧ a ≤ 1099511627776) (hcn : (countV f t s).1 = N) (hna : (nextV f s).1 = a) :
    Calls Try.prog 23 #[.int .i64 f, .int .i64 t, .int .i64 s, .int .i64 m] w (Gives ((stp a s N).take m.toNat) w) := by
  have HBD := Lib.hid hbd
  have HCN := Lib.hid hcn
  have HNA := Lib.hid hna
  clear hbd hcn hna
  refine (callsIn_wide (n := 9)).1 ?_
  refine callsIn_of_wp_marks Try.func23 rfl trivial ?_ rfl
  simp only [Try.ntmps23, List.size_toArray, List.length_cons, List.length_nil, Nat.reduceAdd, Nat.reduceSub, Array.replicate_succ, Array.replicate_zero, List.push_toArray, List.append_toArray, List.nil_append, List.cons_append]
  gi_wp2
  refine ⟨trivial, ?_⟩
  refine (callsIn_wide.2 (closes_any f t s _)).mono ?_
  rintro e w1 ⟨bn, bf, bs, rfl, ⟨kn, ln⟩, ⟨kf, lf⟩, ⟨ks, ls⟩, cn, cf, cs, hb1⟩
  simp only [World.size_alloc] at kn kf ks
  have hz1 : w.heap.size + 3 ≤ w1.heap.size := by have := hb1.size; simp at this; omega
  have b1 : Boxed w1 w.heap.size 3 (.int .i64 m) := Boxed.below (((Boxed.new w 3 (.int .i64 m)).alloc _).alloc _) hb1
  have b2 : Boxed w1 (w.heap.size + 1) 30 (.slice none 0 0) := Boxed.below (((by have h := Boxed.new (w.alloc (.cells #[.int .i64 m] 3)) 30 (.slice none 0 0); rw [World.size_alloc] at h; exact h : Boxed _ (w.heap.size + 1) 30 (.slice none 0 0))).alloc _) hb1
  have b3 : Boxed w1 (w.heap.size + 1 + 1) 30 (.slice none 0 0) := Boxed.below (by have h := Boxed.new ((w.alloc (.cells #[.int .i64 m] 3)).alloc (.cells #[.slice none 0 0] 30)) 30 (.slice none 0 0); rw [World.size_alloc, World.size_alloc] at h; exact h) hb1
  have hB1 : Below w.heap.size w w1 := ((((Below.refl _ w).alloc (Nat.le_refl _) _).alloc (by simp) _).alloc (by simp; omega) _).trans (hb1.mono (by simp; omega))
  have c1 := b1.cell
  have c2 := b2.cell
  have c3 := b3.cell
  have f2 := b2.frozen
  have qf : ∀ (w : World) (ca : Array Value), (binOp .eql 36 (.func (.func 32) #[] ca) .nilFunc).run Try.prog w = .ok (.bool false) w := fun w ca => run_eql_func_nil w 36 _ _ _ _ _ ca Try.underlying36
  rw [HCN.out] at cn
  rw [HNA.out] at cf
  obtain ⟨i0, hi, hz0, hz1, hz2⟩ := info_parts info3
  gi_wp2
  refine wpIn_rangeFunc_ownG rfl (by decide) (gf := 32) (lb := #[.pointer (some ⟨bn, 0, none⟩), .pointer (some ⟨bf, 0, none⟩), .pointer (some ⟨bs, 0, none⟩)]) rfl trivial (enters_of Try.func32 (by kernel_rfl) rfl)
      (S := fun ys => ys = stp a s N) (Sp := fun pre => pre <+: stp a s N) (N := (stp a s N).length) (w0 := w1) (Kp := KpB (w.heap.size + 1 + 1) w1.heap.size) (encs := fun x : Int => #[Value.int .i64 x])
      ?seq (fun h k b h1 h2 => (k b h1 h2).trans (h b h1 h2)) ?kb (Below.refl _ _) (fun _ => rfl)
      (fun pre W => ((pre.length : Int) < m ∧ (∃ v, Boxed W (w.heap.size + 1 + 1) 30 v ∧ W.ownsRow w1.heap.size 3 1 v pre.length (pre.map (Value.int .i64)) ∧ True) ∧ Boxed W w.heap.size 3 (.int .i64 m) ∧ Boxed W (w.heap.size + 1) 30 (.slice none 0 0) ∧ w1.heap.size ≤ W.heap.size) ∧ Below w.heap.size w W)
      (fun c pre W => (c = .ret ∧ (pre.length : Int) = m ∧ (∃ v, Boxed W (w.heap.size + 1) 30 v ∧ W.ownsRow w1.heap.size 3 1 v pre.length (pre.map (Value.int .i64)) ∧ True)) ∧ Below w.heap.size w W)
      (OwnFrom.and (OwnFrom.and (ownFrom_pure _ (fun pre : List Int => (pre.length : Int) < m)) (OwnFrom.and (Own.from (holdsRow_own w1.heap.size (w.heap.size + 1 + 1) 30 3 1 (fun pre : List Int => pre.length) (fun pre => pre.map (Value.int .i64)) (fun _ _ => True)) _) (OwnFrom.and (Own.from (boxed_own _ _ (fun _ => _)) _) (OwnFrom.and (Own.from (boxed_own _ _ (fun _ => _)) _) (fun _ _ _ _ hs hg _ => Nat.le_trans hs hg.size))))) (ownFrom_below (Nat.le_refl _) (by omega)))
      (fun c => OwnFrom.and (OwnFrom.and (ownFrom_pure _ (fun _ => c = .ret)) (OwnFrom.and (ownFrom_pure _ (fun pre : List Int => (pre.length : Int) = m)) (Own.from (holdsRow_own w1.heap.size (w.heap.size + 1) 30 3 1 (fun pre : List Int => pre.length) (fun pre => pre.map (Value.int .i64)) (fun _ _ => True)) _))) (ownFrom_below (Nat.le_refl _) (by omega)))
      ⟨⟨by simp; omega, ⟨_, b3, World.ownsRow_nil _ _ _ _, trivial⟩, b1, b2, Nat.le_refl _⟩, hB1⟩
      (fun x => { tmps := #[.int .i64 f, .int .i64 t, .int .i64 s, .int .i64 m, undef, undef, undef, .pointer (some ⟨w.heap.size, 0, none⟩), .pointer (some ⟨w.heap.size + 1, 0, none⟩), .pointer (some ⟨w.heap.size + 1 + 1, 0, none⟩),
        .func (.func 32) #[] #[.pointer (some ⟨bn, 0, none⟩), .pointer (some ⟨bf, 0, none⟩), .pointer (some ⟨bs, 0, none⟩)], .int .i64 x, .int .i64 f, .int .i64 t, .int .i64 s,
        .func (.func 32) #[] #[.pointer (some ⟨bn, 0, none⟩), .pointer (some ⟨bf, 0, none⟩), .pointer (some ⟨bs, 0, none⟩)], .int .i64 m, .bool (decide (m < 1)), .bool (decide (m < 1)),
        .func (.func 32) #[] #[.pointer (some ⟨bn, 0, none⟩), .pointer (some ⟨bf, 0, none⟩), .pointer (some ⟨bs, 0, none⟩)], .bool false, .bool (decide (m < 1)),
        .func (.func 32) #[] #[.pointer (some ⟨bn, 0, none⟩), .pointer (some ⟨bf, 0, none⟩), .pointer (some ⟨bs, 0, none⟩)], .int .i64 x, undef, undef, undef, undef, undef, undef, undef, undef, undef, undef], defers := [] }) ?assign ?body ?done ?stop
  case seq =>
    exact fun l J Jx W hW _ _ hY h0 => closes1_in Fence.wide _ trivial rfl (by decide) l bn bf bs _ a s N J Jx hN (fun A B h => h.cell (by omega) lf) (fun A B h => h.cell (by omega) ls) HBD.out hY W ((hW.cell (p := ⟨bn, 0, none⟩) ln).trans cn) ((hW.cell (p := ⟨bf, 0, none⟩) lf).trans cf) ((hW.cell (p := ⟨bs, 0, none⟩) ls).trans cs) h0
  case kb =>
    intro W l o o' hl h _ _ b h1 h2
    exact World.putObj_heap_other (by omega)
  case assign =>
    intro l x W K hK
    gi_wp2
    exact hK
  case body =>
    rintro l pre x W ⟨⟨hlt, ⟨v, hv, hrow, _⟩, hm, hr, hsz⟩, hB⟩ _
    have hc := hv.cell
    gi_wp2_with (gi_at_builtin; refine wpListIn_append_own _ rfl _ _ 30 rfl w1.heap.size 3 i0 (.int .i64 0) 1 8 Try.underlying30 hi hz0 hz1 hz2 rfl (by decide) _ _ _ rfl (hrow.alloc _) ⟨W.heap.size, 0, none⟩ 1 1 [.int .i64 x] rfl rfl (cell_one_new _ _ _) (by simp [Value.oneCell']) (by unfold maxLen; omega) (by omega) (by simp; omega) ?_; intro v' w2 hown' hgrow _; obtain ⟨g', cap', rfl⟩ := ownsRow_succ hown'; obtain ⟨hb2, hv1, hk2⟩ := app_box hv (by omega) hsz hrow hown' hgrow; have hc1 := hv1.cell; have hf1 := hv1.frozen; have hcm := (Boxed.belowB hm hb2 (by omega)).cell; have hbr := Boxed.belowB hr hb2 (by omega); have hcr := hbr.cell; have hfr := hbr.frozen)
    · have hle : m ≤ (pre.length : Int) + 1 := by assumption
      have h1 := (hv1.set (.slice (some ⟨g', 0, none⟩) (pre.length + 1) cap'))
      have h2 := (hbr.other (B' := w.heap.size + 1 + 1) (by omega) (.slice (some ⟨g', 0, none⟩) (pre.length + 1) cap')).set (.slice (some ⟨g', 0, none⟩) (pre.length + 1) cap')
      have h3 := ownsRow_setCell_below (ownsRow_setCell_below hown' (a := ⟨w.heap.size + 1 + 1, 0, none⟩) (by simp; omega) (.slice (some ⟨g', 0, none⟩) (pre.length + 1) cap')) (a := ⟨w.heap.size + 1, 0, none⟩) (by simp; omega) (.slice (some ⟨g', 0, none⟩) (pre.length + 1) cap')
      refine ⟨((hk2.trans (KeepsOthers.setCell _ _ _)).trans (KeepsOthers.setCell _ _ _)).from _, ⟨rfl, by simp; omega, _, h2, by simpa using h3, trivial⟩, ?_⟩
      exact ((hB.trans (hb2.mono (by omega))).setCell (by simp; omega) _).setCell (by simp) _
    · have hgt : (pre.length : Int) + 1 < m := by assumption
      have h1 := (hv1.set (.slice (some ⟨g', 0, none⟩) (pre.length + 1) cap'))
      have h3 := ownsRow_setCell_below hown' (a := ⟨w.heap.size + 1 + 1, 0, none⟩) (by simp; omega) (.slice (some ⟨g', 0, none⟩) (pre.length + 1) cap')
      refine ⟨(hk2.trans (KeepsOthers.setCell _ _ _)).from _, ?_, ⟨by simp; omega, ⟨_, h1, by simpa using h3, trivial⟩, (Boxed.belowB hm hb2 (by omega)).other (by omega) _, hbr.other (by omega) _, ?_⟩, ?_⟩
      · intro b k1 k2
        rw [Below.heap_setCell _ _ _ _ (by simp; omega)]
        exact hb2.block b k2
      · simp only [World.size_setCell]
        exact Nat.le_trans hsz hb2.size
      · exact (hB.trans (hb2.mono (by omega))).setCell (by simp; omega) _
  case done =>
    rintro D ys W hD rfl ⟨⟨hlt, ⟨v, hv, hrow, _⟩, hm, hr, hsz⟩, hB⟩ hK
    obtain ⟨A, q, cap, rfl⟩ := row_form hrow
    have hc := hv.cell
    have hcr := hr.cell
    have hfr := hr.frozen
    gi_wp2
    have hK' := (KeepsOthers.setCell W ⟨w.heap.size + 1, 0, none⟩ (.slice A q cap)).same D _ hK rfl
    refine ⟨by simp, .inl ⟨_, _, rfl, run_takeDeferred hK', ?_⟩⟩
    have hrow2 := ownsRow_putObj (ownsRow_setCell_below hrow (a := ⟨w.heap.size + 1, 0, none⟩) (by simp; omega) (.slice A q cap)) (.deferred none) hK' rfl
    have hc5 := cell_kept (hr.set (.slice A q cap)).cell (grownBy_putObj' _ D (.deferred none)) (fun r e => by cases e; exact ⟨_, hK', rfl⟩)
    refine ⟨.slice A q cap, by simp [results, Try.f23, go_sem, hc5], .slice A q cap, rfl, ?_, (hB.setCell (p := ⟨w.heap.size + 1, 0, none⟩) (by simp) _).trans (belowK_b (w := w1) (by omega) _ D _ _ hD hK' rfl rfl)⟩
    rw [List.take_of_length_le (by omega)]
    exact IR.of_own hrow2
  case stop =>
    rintro D c pre W hD hpre ⟨⟨rfl, hlen, v, hv, hrow, _⟩, hB⟩ hK
    gi_wp2
    refine ⟨by simp, .inl ⟨_, _, rfl, run_takeDeferred hK, ?_⟩⟩
    have hrow2 := ownsRow_putObj hrow (.deferred none) hK rfl
    have hc5 := cell_kept hv.cell (grownBy_putObj' _ D (.deferred none)) (fun r e => by cases e; exact ⟨_, hK, rfl⟩)
    refine ⟨v, by simp [results, Try.f23, go_sem, hc5], v, rfl, ?_, hB.trans (belowK_b (w := w1) (by omega) _ D _ _ hD hK rfl rfl)⟩
    rw [show m.toNat = pre.length by omega, ← List.prefix_iff_eq_take.1 hpre]
    exact IR.of_own hrow2

theorem first_any (f t s m : Int) (w : World) (hm : m ≤ 1000) : Calls Try.prog 23 #[.int .i64 f, .int .i64 t, .int .i64 s, .int .i64 m] w (Gives (firstL f t s m) w) := by
  by_cases h1 : 1 ≤ m
  · obtain ⟨hN, hbd⟩ := cls_bd f t s
    have hc := count_nn f t s
    exact first_some f t s m _ _ w h1 hm hN hbd (by omega) rfl
  · have e : firstL f t s m = [] := by unfold firstL; rw [show m.toNat = 0 by omega]; rfl
    rw [e]
    exact first_none f t s m w (by omega)
end Go.Proofs.Ytdkdklaoljmpgaa
