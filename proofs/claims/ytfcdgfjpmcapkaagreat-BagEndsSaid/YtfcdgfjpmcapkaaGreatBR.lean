/- Walk: entries are put. -/
import Derived.Test.YtfcdgfjpmcapkaaGreatBQ
import Derived.Deep.CutRange
import Derived.Deep.CutBlock
import Derived.Deep.RegionHeld3
namespace Go.Proofs.YtfcdgfjpmcapkaaGreat
open Go.ChangeShapes Go.WideShapes Go.ChangeAt Go.RowKit Go.Maps
set_option linter.unusedVariables false

variable {w : World} {b : Nat} {O : Nat → Prop} {S : List Et} {n : Nat}

theorem endS2_next {w w1 w2 : World} {r i j : Nat} {u v : Value} (h : w1.cell? ⟨r, i, none⟩ = some u ∧ w1.cell? ⟨r, j, none⟩ = some v ∧ Below w.heap.size w w1) (hr : r < w.heap.size) (hb : Below w1.heap.size w1 w2) : w2.cell? ⟨r, i, none⟩ = some u ∧ w2.cell? ⟨r, j, none⟩ = some v ∧ Below w.heap.size w w2 :=
  ⟨(hb.cell (p := ⟨r, i, none⟩) (by have := h.2.2.size; show r < _; omega)).trans h.1, (hb.cell (p := ⟨r, j, none⟩) (by have := h.2.2.size; show r < _; omega)).trans h.2.1, h.2.2.trans (hb.mono h.2.2.size)⟩
theorem endS2_set {w w1 : World} {r i j g k : Nat} {u v : Value} (h : w1.cell? ⟨r, i, none⟩ = some u ∧ w1.cell? ⟨r, j, none⟩ = some v ∧ Below w.heap.size w w1) (hr : r < w.heap.size) (hg : w.heap.size ≤ g) (z : Value) : (w1.setCell ⟨g, k, none⟩ z).cell? ⟨r, i, none⟩ = some u ∧ (w1.setCell ⟨g, k, none⟩ z).cell? ⟨r, j, none⟩ = some v ∧ Below w.heap.size w (w1.setCell ⟨g, k, none⟩ z) :=
  ⟨(World.cell?_of_block (a := ⟨r, i, none⟩) (Below.heap_setCell _ _ _ _ (by show r ≠ g; omega))).trans h.1, (World.cell?_of_block (a := ⟨r, j, none⟩) (Below.heap_setCell _ _ _ _ (by show r ≠ g; omega))).trans h.2.1, h.2.2.setCell hg _⟩
theorem put_yes {S : List Et} {E : List En} {xk : ByteArray} {xv xe xx yy : Int} (hp : (E.map (·.1)).Perm S) (hs : Sd S) (hf : fiV (fi E xk xv) = .agg #[.int .i64 xx, .int .i64 yy]) (hc : (fi E xk xv).isSome = false ∨ xx < xe) : ∀ e, fnd S xk xv = some e → e < xe := by
  intro e he
  rw [fnd_fi hp hs] at he
  cases hx : fi E xk xv with
  | none => rw [hx] at he; cases he
  | some e0 =>
    rw [hx] at he hf hc
    simp [fiV] at he hf hc
    omega
theorem put_no {S : List Et} {E : List En} {xk : ByteArray} {xv xe xx yy : Int} (hp : (E.map (·.1)).Perm S) (hs : Sd S) (hf : fiV (fi E xk xv) = .agg #[.int .i64 xx, .int .i64 yy]) (hc : (fi E xk xv).isSome = true) (h : ¬ xx < xe) : putS S (xk, xv, xe) = S := by
  cases hx : fi E xk xv with
  | none => rw [hx] at hc; cases hc
  | some e0 =>
    refine putS_keep hs (x := (xk, xv, xe)) (e := e0.1.2.2) (by rw [fnd_fi hp hs, hx]; rfl) ?_
    rw [hx] at hf
    simp [fiV] at hf
    simp only
    omega
theorem push_one {W : World} {hb : Nat} {sv : Value} {H : List It} (h : Hb W hb sv H) (hh : Heap H) (x y : Int) (hl : H.length + 1 ≤ 1000000) : Calls Tryz.prog 34 #[.pointer (some ⟨hb, 0, none⟩), .slice (some ⟨W.heap.size, 0, none⟩) 1 1] (W.drew.alloc (.cells #[.int .i64 x, .int .i64 y] 74)) fun e w' => e = .returned (.int .i64 0) ∧ ∃ sv1 M, Hb w' hb sv1 M ∧ M.Perm (H ++ [(x, y)]) ∧ Heap M ∧ Loc W sv sv1 ∧ Keep (Off hb sv) W w' := by
  have hbw : Below W.heap.size W (W.drew.alloc (.cells #[.int .i64 x, .int .i64 y] 74)) := (Below.refl _ _).drew.alloc (Nat.le_refl _) _
  have hx : (W.drew.alloc (.cells #[.int .i64 x, .int .i64 y] 74)).heap[W.heap.size]? = some (.cells #[.int .i64 x, .int .i64 y] 74 (0, 0)) := heap_alloc_new W.drew _
  have hpr : PR (W.drew.alloc (.cells #[.int .i64 x, .int .i64 y] 74)) (.slice (some ⟨W.heap.size, 0, none⟩) 1 1) [(x, y)] := by
    refine ⟨_, 1, rfl, fun _ => ⟨_, rfl, (Array.getElem?_eq_some_iff.1 hx).1, fun k hk => ?_⟩⟩
    obtain rfl : k = 0 := by simp at hk; omega
    refine ⟨?_, ?_⟩
    · have := cell_of_row _ _ 0 _ 74 (0, 0) hx
      simpa [Addr.add] using this
    · have := cell_of_row _ _ 1 _ 74 (0, 0) hx
      simpa [Addr.add] using this
  refine (push_any (h.below hbw) hh hpr (fun _ g hg => ?_) (by simpa using hl)).mono ?_
  · obtain rfl : W.heap.size = g := by simpa [Value.ownBlock] using hg
    exact h.off (Nat.le_refl _)
  · rintro e w' ⟨rfl, sv1, M, h1, h2, h3, h4, h5⟩
    refine ⟨rfl, sv1, M, h1, h2, h3, fun g hg => ?_, (Keep.of_below hbw).trans h5 fun _ _ h => h⟩
    rcases h4 g hg with h | h
    · exact .inl h
    · exact .inr (Nat.le_trans hbw.size h)
theorem ix_off {wc w2 : World} {mr mp hb n1 : Nat} {sv : Value} {Ks1 Ks2 : List (ByteArray × Nat)} {E1 : List En} {H1 : List It} (h : BgI wc b mr mp hb sv Ks1 E1 n1 H1) {z : Nat} (hn : ∀ p ∈ Ks2, p ∈ Ks1 ∨ z ≤ p.2) (hz : wc.heap.size ≤ z) (hh : Hb w2 hb sv H1) : ∀ k, IxO b mr mp Ks2 k → Off hb sv k := by
  intro k hk
  rcases hk with hk | hk | hk | ⟨p, hp, rfl⟩
  · exact h.off (.inl hk)
  · exact h.off (.inr (.inl hk))
  · exact h.off (.inr (.inr (.inl hk)))
  · rcases hn p hp with h1 | h1
    · exact h.off (.inr (.inr (.inr ⟨p, h1, rfl⟩)))
    · exact h.hp.off (by omega)
theorem row_off {wc : World} {mr mp hb n1 A6 : Nat} {sv : Value} {Ks1 : List (ByteArray × Nat)} {E1 : List En} {H1 : List It} {cs : Array Value} (h : BgI wc b mr mp hb sv Ks1 E1 n1 H1) (hn : ¬ IxO b mr mp Ks1 A6) (hc : wc.heap[A6]? = some (.cells cs 38 (0, 0))) : Off hb sv A6 := by
  refine ⟨?_, ?_⟩
  · rintro rfl
    rw [h.hp.blk] at hc
    cases hc
  · intro e
    rcases h.hp.row.2 with ⟨rfl, _⟩ | ⟨g, cap, cur, rfl, _, hg, _⟩
    · simp [Value.ownBlock] at e
    · obtain rfl : g = A6 := by simpa [Value.ownBlock] using e
      rw [hg] at hc
      cases hc
/-- between two rounds of Put -/
structure PutS (w : World) (b mr mp hb : Nat) (O : Nat → Prop) (S : List Et) (n : Nat) (sv : Value) (Ks : List (ByteArray × Nat)) (E : List En) (H : List It) (n1 : Nat) (wr : World) : Prop where
  bg : BgI wr b mr mp hb sv Ks E n1 H
  pm : (E.map (·.1)).Perm S
  sd : Sd S
  le : n1 ≤ n
  bo : ∀ k, BO b mr mp hb sv Ks k → O k ∨ w.heap.size ≤ k
  kp : Keep (fun k => ¬ O k) w wr

theorem PutS.below {mr mp hb n1 : Nat} {sv : Value} {Ks : List (ByteArray × Nat)} {E : List En} {H : List It} {wr w' : World} (h : PutS w b mr mp hb O S n sv Ks E H n1 wr) (hb' : Below wr.heap.size wr w') : PutS w b mr mp hb O S n sv Ks E H n1 w' :=
  ⟨h.bg.below hb', h.pm, h.sd, h.le, h.bo, h.kp.trans (Keep.of_below hb') fun _ _ h => h⟩

def PutR (b : Nat) (O : Nat → Prop) (S : List Et) (n : Nat) (l : List Et) (w : World) (e : Ending) (w' : World) : Prop :=
  e = .returned (.int .i64 0) ∧ ∃ n', n' ≤ n + l.length ∧ Bag w' b (grw O w w') (putsS S l) n' ∧ Keep (fun k => ¬ O k) w w'

theorem putsS_succ {S l : List Et} {k : Nat} (hk : k < l.length) : putsS S (l.take (k + 1)) = putS (putsS S (l.take k)) (ge l k) := by
  rw [List.take_succ_eq_append_getElem hk, ge_get hk]
  unfold putsS
  rw [List.foldl_append]
  rfl

theorem put_round {wc w2 w4 : World} {mr mp hb n1 z : Nat} {sv sv4 : Value} {Ks1 Ks2 : List (ByteArray × Nat)} {E1 : List En} {H1 M : List It} {k : Nat} {xk : ByteArray} {xv xe : Int} (h : PutS w b mr mp hb O S (n + k) sv Ks1 E1 H1 n1 wc) (hf : ∀ e, fnd S xk xv = some e → e < xe)
    (hi : Ix w2 b mr mp Ks2 (((xk, xv, xe), n1 + 1) :: othE (xk, xv, xe) E1) (n1 + 1) hb) (hk : Keep (fun j => ¬ IxO b mr mp Ks1 j) wc w2) (hnew : ∀ p ∈ Ks2, p ∈ Ks1 ∨ z ≤ p.2) (hz : wc.heap.size ≤ z) (hl : Ks2.length ≤ Ks1.length + 1) (hh2 : Hb w2 hb sv H1)
    (hH : Hb w4 hb sv4 M) (hp : M.Perm (H1 ++ [(xe, (n1 : Int) + 1)])) (hM : Heap M) (hloc : Loc w2 sv sv4) (hk4 : Keep (Off hb sv) w2 w4) (hlt : ∀ k, O k → k < w.heap.size) :
    PutS w b mr mp hb O (putS S (xk, xv, xe)) (n + (k + 1)) sv4 Ks2 (((xk, xv, xe), n1 + 1) :: othE (xk, xv, xe) E1) M (n1 + 1) w4 := by
  have e1 : ((n1 + 1 : Nat) : Int) = (n1 : Int) + 1 := by omega
  have hoff := ix_off h.bg hnew hz hh2
  have hszc := h.kp.size
  have hszk := hk.size
  refine ⟨h.bg.putted (x := (xk, xv, xe)) hi hk hl hH (by rw [e1]; exact hp) hM hk4 hoff, set_perm (x := (xk, xv, xe)) h.pm h.sd hf, sd_put h.sd _, by have := h.le; omega, fun j hj => ?_, ?_⟩
  · rcases hj with (h1 | h1 | h1 | ⟨p, hpm, h1⟩) | h1 | h1
    · exact h.bo j (.inl (.inl h1))
    · exact h.bo j (.inl (.inr (.inl h1)))
    · exact h.bo j (.inl (.inr (.inr (.inl h1))))
    · rcases hnew p hpm with h2 | h2
      · exact h.bo j (.inl (.inr (.inr (.inr ⟨p, h2, h1⟩))))
      · exact .inr (by omega)
    · exact h.bo j (.inr (.inl h1))
    · rcases hloc j h1 with h2 | h2
      · exact h.bo j (.inr (.inr h2))
      · exact .inr (by omega)
  · have h2 : Keep (fun j => ¬ O j) w w2 := h.kp.trans (hk.mono (q := fun j => ¬ O j ∧ j < w.heap.size) fun j _ hj hjj => by
      rcases h.bo j (.inl hjj) with h1 | h1
      · exact hj.1 h1
      · omega) fun i hi hj => ⟨hj, hi⟩
    refine h2.trans (hk4.mono (q := fun j => ¬ O j ∧ j < w.heap.size) fun j _ hj => ⟨fun e => ?_, fun e => ?_⟩) fun i hi hj => ⟨hj, hi⟩
    · rcases h.bo j (.inr (.inl e)) with h1 | h1
      · exact hj.1 h1
      · omega
    · rcases h.bo j (.inr (.inr e)) with h1 | h1
      · exact hj.1 h1
      · omega
theorem put_end {wr w' : World} {mr mp hb n1 : Nat} {sv : Value} {Ks1 : List (ByteArray × Nat)} {E1 : List En} {H1 : List It} {e : Ending} (h : PutS w b mr mp hb O S n sv Ks1 E1 H1 n1 wr) (hlt : ∀ k, O k → k < w.heap.size) (hs : SetlR b mr mp hb sv Ks1 E1 n1 wr e w') :
    e = .returned (.tuple #[]) ∧ Bag w' b (grw O w w') S n1 ∧ Keep (fun k => ¬ O k) w w' := by
  obtain ⟨rfl, hb', sv', H', h1, h2, h3, h4⟩ := hs
  refine ⟨rfl, ⟨mr, mp, hb', sv', Ks1, E1, H', h1, h2, h.pm, h.sd, fun k hkk => ?_, fun k hkk => ?_⟩, ?_⟩
  · have hl := h1.lt hkk
    rcases h4 k hkk with h5 | h5
    · rcases h.bo k h5 with h6 | h6
      · exact .inl h6
      · exact .inr ⟨h6, hl⟩
    · exact .inr ⟨Nat.le_trans h.kp.size h5, hl⟩
  · have := h.kp.size
    have := h3.size
    rcases hkk with h5 | h5
    · have := hlt k h5; omega
    · exact h5.2
  · refine h.kp.trans (h3.mono (q := fun k => ¬ O k ∧ k < w.heap.size) fun k _ h5 hh => ?_) fun i hi h5 => ⟨h5, hi⟩
    rcases h.bo k hh with h6 | h6
    · exact h5.1 h6
    · omega

set_option maxRecDepth 100000 in
set_option maxHeartbeats 4000000 in
theorem put_bag (h : Bag w b O S n) {v : Value} {l : List Et} (hv : PE w v l) (hoff : 0 < l.length → ∀ g, v.ownBlock = some g → ¬ O g) (hwe : ∀ k, k < l.length → We (ge l k)) (hn : n + l.length ≤ 1000000) : Calls Tryz.prog 11 #[.pointer (some ⟨b, 0, none⟩), v] w (PutR b O S n l w) := by
  obtain ⟨mr, mp, hb, sv, Ks, E, H, h1, h2, h3, h4, h5, h6⟩ := h
  have hm := made_bag h1.ix
  obtain ⟨m, hm2⟩ : ∃ m, l.length = m := ⟨_, rfl⟩
  obtain ⟨A, c, rfl⟩ := hv.form
  have HV := Lib.hid hv
  have HO := Lib.hid hoff
  have HWE := Lib.hid hwe
  have HM := Lib.hid hm2
  have HP0 := Lib.hid (show PutS w b mr mp hb O S n sv Ks E H n w from ⟨h1, h3, h4, Nat.le_refl _, fun k hk => .inl (h5 k hk), Keep.refl _ _⟩)
  have H6 := Lib.hid h6
  rw [hm2] at hn
  clear h1 h2 h3 h4 h5 h6 hv hoff hwe
  rw [hm2]
  clear hm2
  go_enter Tryz.func11, Tryz.ntmps11
  go_wp2_with (go_at_call 31; refine hm.mono ?_; rintro e w' ⟨rfl, hww⟩; obtain rfl : w = w' := hww.symm; clear hww)
  go_loopw [15] (fun p wr => ∃ (k : Nat) (sv1 : Value) (Ks1 : List (ByteArray × Nat)) (E1 : List En) (H1 : List It) (n1 : Nat), k ≤ m ∧ p = .int .i64 k ∧ PutS w b mr mp hb O (putsS S (l.take k)) (n + k) sv1 Ks1 E1 H1 n1 wr) (fun p _ => m - (intOf p).toNat)
  case atStart => exact ⟨0, sv, Ks, E, H, n, Nat.zero_le _, rfl, by simpa [putsS] using HP0.out⟩
  case round =>
    obtain ⟨k, sv1, Ks1, E1, H1, n1, hk, rfl, hP⟩ := hrel
    have HP := Lib.hid hP
    by_cases hlt : k < m
    · have hvr := HV.out.keep hP.kp (fun h0 g hg _ => HO.out h0 g hg)
      obtain ⟨ad, rfl, hadl, x1, x2, x3⟩ := hvr.at3 (k := k) (by rw [HM.out]; exact hlt)
      obtain ⟨⟨xk, xv, xe⟩, hx⟩ : ∃ x, ge l k = x := ⟨_, rfl⟩
      rw [hx] at x1 x2 x3
      simp only at x1 x2 x3
      have hwx := HWE.out k (by rw [HM.out]; exact hlt)
      rw [hx] at hwx
      obtain ⟨wk, wv, we⟩ := hwx
      simp only at wk wv we
      have HX := Lib.hid hx
      have hwkm : xk.size ≤ maxLen := by unfold maxLen; omega
      clear hP hvr hx
      go_upto_region 6 with (fail)
      have hbw : Below wr.heap.size wr (wr.alloc (.cells #[.string xk, .int .i64 xv, .int .i64 xe] 38)) := (Below.refl _ _).alloc (Nat.le_refl _) _
      have hloc : (wr.alloc (.cells #[.string xk, .int .i64 xv, .int .i64 xe] 38)).heap[wr.heap.size]? = some (.cells #[.string xk, .int .i64 xv, .int .i64 xe] 38 (0, 0)) := heap_alloc_new _ _
      have HP1 := Lib.hid (HP.out.below hbw)
      obtain ⟨A6, hA6⟩ : ∃ A6, wr.heap.size = A6 := ⟨_, rfl⟩
      obtain ⟨W1, hW1⟩ : ∃ W1, wr.alloc (.cells #[.string xk, .int .i64 xv, .int .i64 xe] 38) = W1 := ⟨_, rfl⟩
      have hl1 : A6 < W1.heap.size := by rw [← hW1, ← hA6]; simp
      rw [hA6, hW1] at hloc
      rw [hW1] at HP1
      rw [hA6, hW1]
      have HLOC := Lib.hid hloc
      have HA6 := Lib.hid hA6
      obtain ⟨xx, yy, hxy⟩ : ∃ x y, fiV (fi E1 xk xv) = .agg #[.int .i64 x, .int .i64 y] := by cases fi E1 xk xv <;> exact ⟨_, _, rfl⟩
      obtain ⟨cc, hcc⟩ : ∃ c, (fi E1 xk xv).isSome = c := ⟨_, rfl⟩
      have HXY := Lib.hid hxy
      have HCC := Lib.hid hcc
      clear hbw hloc hA6 hW1 x1 x2 x3 hadl hxy hcc
      go_cut [7, 8, 15] from 15 to 59 (fun t7 t8 t15 wc => ∃ A7, t7 = .pointer (some ⟨A7, 0, none⟩) ∧ t8 = .bool cc ∧ t15 = .int .i64 k ∧ wc.heap[A7]? = some (.cells #[.int .i64 xx, .int .i64 yy] 68 (0, 0)) ∧ Below W1.heap.size W1 wc)
      case first =>
        have hfd : ∀ W, Below W1.heap.size W1 W → Calls Tryz.prog 32 #[.pointer (some ⟨b, 1, none⟩), .string xk, .int .i64 xv] W fun e w' => e = .returned (.tuple #[.agg #[.int .i64 xx, .int .i64 yy], .bool cc]) ∧ Below W.heap.size W w' := fun W hW => by
          have := find_bag (HP1.out.bg.ix.below hW) xk xv hwkm wv
          rw [HXY.out, HCC.out] at this
          exact this
        have HFD := Lib.hid hfd
        obtain ⟨c0, c1, c2, c3, c4, f3, f4⟩ := HP1.out.bg.ix.cells
        have hlb1 := HP1.out.bg.ix.lt (.inl rfl)
        have d0 := cell_of_row _ _ 0 _ 38 (0, 0) HLOC.out
        have d1 := cell_of_row _ _ 1 _ 38 (0, 0) HLOC.out
        have S0 := Lib.hid (show W1.drew.cell? ⟨A6, 0, none⟩ = some (.string xk) ∧ W1.drew.cell? ⟨A6, 1, none⟩ = some (.int .i64 xv) ∧ Below W1.heap.size W1 W1.drew from ⟨d0, d1, (Below.refl _ _).drew⟩)
        clear hfd
        go_region_held3 (fun w' => w'.cell? ⟨A6, 0, none⟩ = some (.string xk) ∧ w'.cell? ⟨A6, 1, none⟩ = some (.int .i64 xv) ∧ Below W1.heap.size W1 w')
          (first | exact S0.out | exact HS3.out | exact HS4.out | exact endS2_next S0.out hl1 ((Below.refl _ _).alloc (Nat.le_refl _) _) | exact endS2_next HS3.out hl1 ((Below.refl _ _).alloc (Nat.le_refl _) _) | exact endS2_set (endS2_set HS4.out hl1 (Nat.le_refl _) _) hl1 (Nat.le_refl _) _ | (go_keep; done))
          (first
            | (go_at_call 32; refine (HFD.out _ (Below.refl _ _).drew).mono ?_; rintro e w3 ⟨rfl, hb3⟩; have HS3 := Lib.hid (endS2_next S0.out hl1 hb3); clear hb3)
            | (go_at_call 32; refine (HFD.out _ ((Below.refl _ _).drew.alloc (Nat.le_refl _) _)).mono ?_; rintro e w4 ⟨rfl, hb4⟩; have HS4 := Lib.hid (endS2_next (endS2_next S0.out hl1 ((Below.refl _ _).alloc (Nat.le_refl _) _)) hl1 hb4); obtain ⟨x5, hl5, k0, k1, q0, q1⟩ := local1 hb4; have X5 := Lib.hid x5; clear hb4 x5))
        all_goals go_wp2_with fail
        all_goals go_meet
        all_goals first
          | exact ⟨_, rfl, rfl, rfl, heap_alloc_new _ _, (endS2_next HS3.out hl1 ((Below.refl _ _).alloc (Nat.le_refl _) _)).2.2⟩
          | exact ⟨_, rfl, rfl, rfl, by have := X5.out; simp [World.setCell, Array.getElem?_modify, this], (endS2_set (endS2_set HS4.out hl1 (Nat.le_refl _) _) hl1 (Nat.le_refl _) _).2.2⟩
      case rest =>
        obtain ⟨A7, rfl, rfl, rfl, hl7, hbc⟩ := hcut
        have HPC := Lib.hid (HP1.out.below hbc)
        have hl6 := (hbc.block A6 hl1).trans HLOC.out
        have HL6 := Lib.hid hl6
        have hlc6 : A6 < wc.heap.size := Nat.lt_of_lt_of_le hl1 hbc.size
        have hA6w : wr.heap.size ≤ A6 := by rw [HA6.out]; exact Nat.le_refl _
        have hnix : ¬ IxO b mr mp Ks1 A6 := fun hi => by have := HP.out.bg.ix.lt hi; omega
        have d0 := cell_of_row _ _ 0 _ 38 (0, 0) hl6
        have d1 := cell_of_row _ _ 1 _ 38 (0, 0) hl6
        have d2 := cell_of_row _ _ 2 _ 38 (0, 0) hl6
        have e0 := cell_of_row _ _ 0 _ 68 (0, 0) hl7
        have e1 := cell_of_row _ _ 1 _ 68 (0, 0) hl7
        have hlc7 := (Array.getElem?_eq_some_iff.1 hl7).1
        obtain ⟨c0, c1, c2, c3, c4, f3, f4⟩ := HPC.out.bg.ix.cells
        have hlbc := HPC.out.bg.ix.lt (.inl rfl)
        have HNIX := Lib.hid hnix
        clear hl6 hl7 hbc hnix
        have hcs : (cc = false) ∨ (cc = true ∧ decide (xx < xe) = true) ∨ (cc = true ∧ decide (xx < xe) = false) := by
          cases cc
          · exact .inl rfl
          · by_cases h : xx < xe
            · exact .inr (.inl ⟨rfl, decide_eq_true h⟩)
            · exact .inr (.inr ⟨rfl, decide_eq_false h⟩)
        rcases hcs with hcc | ⟨hcc, hdd⟩ | ⟨hcc, hdd⟩
        · subst hcc
          have HFN := Lib.hid (put_yes (xe := xe) HPC.out.pm HPC.out.sd HXY.out (.inl HCC.out))
          go_upto_region 8 with (fail)

          have HIX := Lib.hid (show Ix wc.drew b mr mp Ks1 E1 n1 hb from HPC.out.bg.ix.below (Below.refl _ _).drew)
          go_still_tail 9, (by kernel_rfl)
          change wpList _ _ _ _ _ wc.drew
          have HKD := Lib.hid (show Keep (fun _ => True) wc wc.drew from Keep.of_below (Below.refl _ _).drew)
          clear c0 c1 c2 c3 c4 f3 f4 d0 d1 d2 e0 e1 hlbc
          generalize wc.drew = W2 at *
          go_upto_region 9 with (go_at_call 33; refine (set_bag HIX.out xk xv xe wk wv (by have := HPC.out.bg.klen; have := HPC.out.le; omega) (by have := HPC.out.le; omega)).mono ?_; rintro e w2 ⟨Ks2, rfl, hI2, hk2, hnew2, hlen2⟩; have HI2 := Lib.hid hI2; have HKK := Lib.hid (show Keep (fun j => ¬ IxO b mr mp Ks1 j) wc w2 from (HKD.out.mono fun _ _ _ => trivial).trans hk2 fun _ _ h => h); have HNEW2 := Lib.hid hnew2; have HLEN2 := Lib.hid hlen2; have hsz2 := hk2.size; clear hI2 hk2 hnew2 hlen2)
          have hhp2 := HPC.out.bg.hp.keep HKK.out fun j _ hj => HPC.out.bg.apart hj
          obtain ⟨c0, c1, c2, c3, c4, f3, f4⟩ := HI2.out.cells
          have hlb2 := HI2.out.lt (.inl rfl)
          have hl62 := (HKK.out.block A6 hlc6 HNIX.out).trans HL6.out
          have d2 := cell_of_row _ _ 2 _ 38 (0, 0) hl62
          have hl62' := (Array.getElem?_eq_some_iff.1 hl62).1
          have HHP2 := Lib.hid hhp2
          have hcw : wc.heap.size ≤ w2.heap.size := HKK.out.size
          clear hl62 hhp2
          have HPU := Lib.hid (push_one HHP2.out HPC.out.bg.ord xe ((n1 : Int) + 1) (by have := HPC.out.bg.hlen; have := HPC.out.le; omega))
          go_region_held3 (fun w' => w'.cell? ⟨b, 4, none⟩ = some (.pointer (some ⟨hb, 0, none⟩)) ∧ w'.cell? ⟨A6, 2, none⟩ = some (.int .i64 xe)) (first | exact ⟨c4, d2⟩ | (go_keep; done))
            (first
              | (go_at_call 34; refine HPU.out.mono ?_; rintro e w4 ⟨rfl, sv4, M, hh4, hpm4, hhp4, hl4, hk4⟩; have hy : Ix w4 b mr mp Ks2 (((xk, xv, xe), n1 + 1) :: othE (xk, xv, xe) E1) (n1 + 1) hb := HI2.out.keep hk4 (ix_off HPC.out.bg HNEW2.out HKD.out.size HHP2.out); have hz4 := hy.cells.2.2.2.2.1; have hy6 := (hk4.block A6 hl62' (row_off HPC.out.bg HNIX.out HL6.out)).trans ((HKK.out.block A6 hlc6 HNIX.out).trans HL6.out); have hd4 := cell_of_row _ _ 2 _ 38 (0, 0) hy6; have HY := Lib.hid hy; have HH4 := Lib.hid hh4; have HPM4 := Lib.hid hpm4; have HHP4 := Lib.hid hhp4; have HL4 := Lib.hid hl4; have HK4 := Lib.hid hk4; clear hy hh4 hpm4 hhp4 hl4 hk4 hy6))
          go_wp2_with fail
          go_roundw
          case rel =>
            refine ⟨k + 1, sv4, Ks2, ((xk, xv, xe), n1 + 1) :: othE (xk, xv, xe) E1, M, n1 + 1, by omega, by go_num, ?_⟩
            rw [putsS_succ (by rw [HM.out]; exact hlt), HX.out]
            exact put_round HPC.out HFN.out HI2.out HKK.out HNEW2.out HKD.out.size HLEN2.out HHP2.out HH4.out HPM4.out HHP4.out HL4.out HK4.out (fun k hk => H6.out k hk)
          case measure => simp [intOf] <;> omega
        · subst hcc
          have HFN := Lib.hid (put_yes (xe := xe) HPC.out.pm HPC.out.sd HXY.out (.inr (of_decide_eq_true hdd)))
          go_upto_region 8 with (fail)
          clear hdd

          have HIX := Lib.hid (show Ix wc.drew b mr mp Ks1 E1 n1 hb from HPC.out.bg.ix.below (Below.refl _ _).drew)
          go_still_tail 9, (by kernel_rfl)
          change wpList _ _ _ _ _ wc.drew
          have HKD := Lib.hid (show Keep (fun _ => True) wc wc.drew from Keep.of_below (Below.refl _ _).drew)
          clear c0 c1 c2 c3 c4 f3 f4 d0 d1 d2 e0 e1 hlbc
          generalize wc.drew = W2 at *
          go_upto_region 9 with (go_at_call 33; refine (set_bag HIX.out xk xv xe wk wv (by have := HPC.out.bg.klen; have := HPC.out.le; omega) (by have := HPC.out.le; omega)).mono ?_; rintro e w2 ⟨Ks2, rfl, hI2, hk2, hnew2, hlen2⟩; have HI2 := Lib.hid hI2; have HKK := Lib.hid (show Keep (fun j => ¬ IxO b mr mp Ks1 j) wc w2 from (HKD.out.mono fun _ _ _ => trivial).trans hk2 fun _ _ h => h); have HNEW2 := Lib.hid hnew2; have HLEN2 := Lib.hid hlen2; have hsz2 := hk2.size; clear hI2 hk2 hnew2 hlen2)
          have hhp2 := HPC.out.bg.hp.keep HKK.out fun j _ hj => HPC.out.bg.apart hj
          obtain ⟨c0, c1, c2, c3, c4, f3, f4⟩ := HI2.out.cells
          have hlb2 := HI2.out.lt (.inl rfl)
          have hl62 := (HKK.out.block A6 hlc6 HNIX.out).trans HL6.out
          have d2 := cell_of_row _ _ 2 _ 38 (0, 0) hl62
          have hl62' := (Array.getElem?_eq_some_iff.1 hl62).1
          have HHP2 := Lib.hid hhp2
          have hcw : wc.heap.size ≤ w2.heap.size := HKK.out.size
          clear hl62 hhp2
          have HPU := Lib.hid (push_one HHP2.out HPC.out.bg.ord xe ((n1 : Int) + 1) (by have := HPC.out.bg.hlen; have := HPC.out.le; omega))
          go_region_held3 (fun w' => w'.cell? ⟨b, 4, none⟩ = some (.pointer (some ⟨hb, 0, none⟩)) ∧ w'.cell? ⟨A6, 2, none⟩ = some (.int .i64 xe)) (first | exact ⟨c4, d2⟩ | (go_keep; done))
            (first
              | (go_at_call 34; refine HPU.out.mono ?_; rintro e w4 ⟨rfl, sv4, M, hh4, hpm4, hhp4, hl4, hk4⟩; have hy : Ix w4 b mr mp Ks2 (((xk, xv, xe), n1 + 1) :: othE (xk, xv, xe) E1) (n1 + 1) hb := HI2.out.keep hk4 (ix_off HPC.out.bg HNEW2.out HKD.out.size HHP2.out); have hz4 := hy.cells.2.2.2.2.1; have hy6 := (hk4.block A6 hl62' (row_off HPC.out.bg HNIX.out HL6.out)).trans ((HKK.out.block A6 hlc6 HNIX.out).trans HL6.out); have hd4 := cell_of_row _ _ 2 _ 38 (0, 0) hy6; have HY := Lib.hid hy; have HH4 := Lib.hid hh4; have HPM4 := Lib.hid hpm4; have HHP4 := Lib.hid hhp4; have HL4 := Lib.hid hl4; have HK4 := Lib.hid hk4; clear hy hh4 hpm4 hhp4 hl4 hk4 hy6))
          go_wp2_with fail
          go_roundw
          case rel =>
            refine ⟨k + 1, sv4, Ks2, ((xk, xv, xe), n1 + 1) :: othE (xk, xv, xe) E1, M, n1 + 1, by omega, by go_num, ?_⟩
            rw [putsS_succ (by rw [HM.out]; exact hlt), HX.out]
            exact put_round HPC.out HFN.out HI2.out HKK.out HNEW2.out HKD.out.size HLEN2.out HHP2.out HH4.out HPM4.out HHP4.out HL4.out HK4.out (fun k hk => H6.out k hk)
          case measure => simp [intOf] <;> omega
        · subst hcc
          have HFN := Lib.hid (put_no (xe := xe) HPC.out.pm HPC.out.sd HXY.out HCC.out (of_decide_eq_false hdd))
          go_wp2_with fail
          go_roundw
          case rel =>
            refine ⟨k + 1, sv1, Ks1, E1, H1, n1, by omega, by go_num, ?_⟩
            have hpc := HPC.out
            rw [putsS_succ (by rw [HM.out]; exact hlt), HX.out, HFN.out]
            exact ⟨hpc.bg, hpc.pm, hpc.sd, by have := hpc.le; omega, hpc.bo, hpc.kp⟩
          case measure => simp [intOf] <;> omega
    · obtain rfl : m = k := by omega
      rw [List.take_of_length_le (by rw [HM.out]; exact Nat.le_refl _)] at hP
      have HPF := Lib.hid hP
      clear hP HP
      go_wp2_with (go_at_call 35; refine (settle_bag HPF.out.bg (by have := HPF.out.le; omega)).mono ?_; intro e w3 hs; have hfin := put_end HPF.out H6.out hs; obtain ⟨rfl, hfb, hfk⟩ := hfin; have HFB := Lib.hid hfb; have HFK := Lib.hid hfk; clear hs hfb hfk)
      go_ret
      exact ⟨rfl, n1, by rw [HM.out]; exact HPF.out.le, HFB.out, HFK.out⟩
end Go.Proofs.YtfcdgfjpmcapkaaGreat
