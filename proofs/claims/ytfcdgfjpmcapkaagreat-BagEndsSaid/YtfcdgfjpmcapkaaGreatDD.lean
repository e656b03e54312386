/- Walks of the law's theirs and same, of the reference's Put. -/
import Derived.Test.YtfcdgfjpmcapkaaGreatDC
import Derived.Lib.QuietBelow
import Derived.StillTailTactics
namespace Go.Proofs.YtfcdgfjpmcapkaaGreat
open Go.ChangeShapes Go.WideShapes Go.ChangeAt Go.RowKit Go.Maps Go.Shelf
set_option linter.unusedVariables false

set_option maxRecDepth 100000 in
set_option maxHeartbeats 1000000 in
theorem theirs_any {w : World} {v : Value} {l : List Et} (h : PE w v l) (hl : l.length ≤ 1000000) : Calls Tryz.prog 13 #[v] w (RowT l w) := by
  obtain ⟨i0, hi, hz0, hz1, hz2⟩ := info_parts info75
  have H := Lib.hid h
  obtain ⟨A, c, rfl, _⟩ := h
  obtain ⟨n, hn⟩ : ∃ n, l.length = n := ⟨_, rfl⟩
  have HN := Lib.hid hn
  rw [hn] at H hl
  rw [hn]
  clear hn
  go_enter Tryz.func13, Tryz.ntmps13
  go_wp2_with fail
  go_loopw [3, 4] (fun o i wr => ∃ q : Nat, q ≤ n ∧ i = .int .i64 q ∧ wr.ownsRow w.heap.size 75 3 o q (flatE (l.take q)) ∧ Below w.heap.size w wr) (fun _ i _ => n - (intOf i).toNat)
  case atStart => exact ⟨0, Nat.zero_le _, rfl, World.ownsRow_nil _ _ _ _, Below.refl _ _⟩
  case round =>
    obtain ⟨q, hq, rfl, hrow, hb⟩ := hrel
    have HB := Lib.hid hb
    have hbs := hb.size
    obtain ⟨Ao, co, rfl⟩ := row_form2 hrow
    by_cases hlt : q < n
    · obtain ⟨ad, e1, _, x0, x1, x2⟩ := PE.at3 (H.out.below hb) (k := q) (by rw [HN.out]; exact hlt)
      subst e1
      obtain ⟨x, hx⟩ : ∃ x, ge l q = x := ⟨_, rfl⟩
      rw [hx] at x0 x1 x2
      have HX := Lib.hid hx
      clear hb hx
      have hro := (hrow.alloc (.cells #[.string x.1, .int .i64 x.2.1, .int .i64 x.2.2] 75)).drew
      have hpn : PE (wr.alloc (.cells #[.string x.1, .int .i64 x.2.1, .int .i64 x.2.2] 75)).drew (.slice (some ⟨wr.heap.size, 0, none⟩) 1 1) [x] := (pe_newT wr 75 [x] 1 1 rfl).below (Below.refl _ _).drew
      have hqi : (q : Int) < (n : Int) := by omega
      clear hrow
      go_upto_region 5 with (fail)
      go_region_law ((refine step_append_pe rfl (.tmp 11) (.tmp 28) rfl (base := w.heap.size) Tryz.underlying28 hi hz0 hz1 hz2 (v := .slice Ao q co) (by simp [Act.eval, Act.put]) hro (v2 := .slice (some ⟨wr.heap.size, 0, none⟩) 1 1) (by simp [Act.eval, Act.put]) hpn (by simp; omega) (by simp; omega) ?_; intro v6 w6 hown6 hgrow6 _))
      all_goals
        have h6 : Below w.heap.size w w6 := ((HB.out.alloc hbs _).drew).grown hgrow6 (by simp; omega) fun k e => (hro.lt k e).1
        have hown7 : w6.ownsRow w.heap.size 75 3 v6 (q + 1) (flatE (l.take (q + 1))) := by
          rw [List.take_succ_eq_append_getElem (by rw [HN.out]; exact hlt), ← ge_get, HX.out, flatE_app]
          exact hown6
        have H6 := Lib.hid h6
        have HO := Lib.hid hown7
        clear h6 hown7 hown6 hgrow6 hro hpn x0 x1 x2
        go_wp2_with fail
        go_roundw
        case rel => exact ⟨q + 1, by omega, by go_num, HO.out, H6.out⟩
        case measure => simp [intOf] <;> omega
    · obtain rfl : n = q := by omega
      rw [List.take_of_length_le (by rw [HN.out]; exact Nat.le_refl _)] at hrow
      have HR := Lib.hid hrow
      clear hrow hb
      go_wp2_with fail
      go_ret
      exact ⟨.slice Ao n co, rfl, by rw [HN.out]; exact HR.out, HB.out⟩

set_option maxRecDepth 100000 in
set_option maxHeartbeats 1000000 in
theorem same_any {w : World} {v1 v2 : Value} {l : List Et} (h1 : PE w v1 l) (h2 : PE w v2 l) (hl : l.length ≤ 1000000) : Calls Tryz.prog 23 #[v1, v2] w fun e w' => e = .returned (.bool true) ∧ Below w.heap.size w w' := by
  have H1 := Lib.hid h1
  have H2 := Lib.hid h2
  obtain ⟨A, c, rfl, _⟩ := h1
  obtain ⟨B, d, rfl, _⟩ := h2
  obtain ⟨n, hn⟩ : ∃ n, l.length = n := ⟨_, rfl⟩
  have HN := Lib.hid hn
  rw [hn] at H1 H2 hl
  rw [hn]
  clear hn
  go_enter Tryz.func23, Tryz.ntmps23
  go_wp2_with fail
  go_loopw [5] (fun i wr => ∃ q : Nat, q ≤ n ∧ i = .int .i64 q ∧ Below w.heap.size w wr) (fun i _ => n - (intOf i).toNat)
  case atStart => exact ⟨0, Nat.zero_le _, rfl, Below.refl _ _⟩
  case round =>
    obtain ⟨q, hq, rfl, hb⟩ := hrel
    have HB := Lib.hid hb
    clear hb
    by_cases hlt : q < n
    · obtain ⟨ad, e1, _, x0, x1, x2⟩ := PE.at3 (H1.out.below HB.out) (k := q) (by rw [HN.out]; exact hlt)
      subst e1
      obtain ⟨ad2, e2, _, y0, y1, y2⟩ := PE.at3 (H2.out.below HB.out) (k := q) (by rw [HN.out]; exact hlt)
      subst e2
      obtain ⟨x, hx⟩ : ∃ x, ge l q = x := ⟨_, rfl⟩
      rw [hx] at x0 x1 x2 y0 y1 y2
      clear hx
      go_upto_region 4 with (fail)
      go_quiet (fail)
      have hbq : Below w.heap.size w (wr.drewN nq) := HB.out.trans ⟨rfl, rfl, rfl, Nat.le_refl _, fun _ _ => rfl⟩
      have HBQ := Lib.hid hbq
      clear hbq x0 x1 x2 y0 y1 y2
      generalize wr.drewN nq = WT at *
      go_wp2_with fail
      go_roundw
      case rel => exact ⟨q + 1, by omega, by go_num, HBQ.out⟩
      case measure => simp [intOf] <;> omega
    · obtain rfl : n = q := by omega
      go_wp2_with fail
      go_ret
      exact ⟨rfl, HB.out⟩

theorem RTurn.below {lo : Nat} {w W W' : World} {rb : Nat} {v : Value} {S : List Et} (h : RTurn lo w rb v S W) (hb : Below W.heap.size W W') : RTurn lo w rb v S W' := by
  obtain ⟨v', h1, h2, h3⟩ := h
  exact ⟨v', h1.below hb, h2.trans (q := fun _ => True) (Keep.of_below hb) fun _ _ _ => trivial, h3⟩
theorem rb_put {lo : Nat} {W : World} {rb : Nat} {v v2 : Value} {S T : List Et} (h : RB lo W rb v S) (hr : W.ownsRow lo 75 3 v2 T.length (flatE T)) (hn : v2.ownBlock ≠ some rb) : RB lo (W.setCell ⟨rb, 0, none⟩ v2) rb v2 T :=
  ⟨by have := h.blk; simp [World.setCell, Array.getElem?_modify, this], own_keep hr (p := fun k => k ≠ rb) (Keep.setCell (Keep.refl _ _) _ _ fun i _ hp => hp) fun g e e' => hn (by rw [e, e']), hn, h.low⟩
theorem rb_end {lo : Nat} {w W : World} {rb gg n c k : Nat} {v0 : Value} {S : List Et} (h : RB lo W rb (.slice (some ⟨gg, 0, none⟩) n c) S) (hn : S.length = n) (hk : k < S.length) (hkp : Keep (RK rb v0) w W) (hv : v0.ownBlock = some gg ∨ w.heap.size ≤ gg) (z : Int) :
    RTurn lo w rb v0 (S.set k ((ge S k).1, (ge S k).2.1, z)) (W.setCell ⟨gg, k * 3 + 2, none⟩ (.int .i64 z)) := by
  have hne : gg ≠ rb := fun e => h.off (by rw [e]; rfl)
  have hrow := h.row
  rw [hn] at hrow
  refine ⟨.slice (some ⟨gg, 0, none⟩) n c, ⟨?_, by rw [List.length_set, hn]; exact own_end hrow hk z, h.off, h.low⟩, Keep.setCell hkp _ _ fun i hi hp e => ?_, fun g e => by cases e; exact hv⟩
  · have := h.blk
    rw [Below.heap_setCell _ _ _ _ (fun e => hne e.symm)]
    exact this
  · have e : i = gg := e
    subst e
    rcases hv with h1 | h1
    · exact hp.2 h1
    · omega

theorem pe_from {w : World} {ad : Addr} {c p n : Nat} {S : List Et} (h : PE w (.slice (some ad) n c) S) (hp : p ≤ n) (hc : n ≤ c) : PE w (.slice (if c = p then some ad else some (ad.add (p * 3))) (n - p) (c - p)) (S.drop p) := by
  split
  · exact h.drop hp fun h1 => by omega
  · exact h.drop hp fun _ => rfl

/-- the end of one entry's way into the reference's bag -/
theorem rput_end {lo : Nat} {w W w6 w7 w8 : World} {rb p : Nat} {v0 v : Value} {S : List Et} {v1 v2 : Value} {o : Obj} {R : List Et} (hk : Keep (RK rb v0) w W) (hrb : RB lo W rb v S) (hlo : lo ≤ w.heap.size) (hlt : rb < w.heap.size) (h6 : Below W.heap.size W w6)
    (h1 : w7.ownsRow w.heap.size 75 3 v1 (0 + (S.take p).length) ([] ++ flatE (S.take p))) (hg1 : (w6.alloc o).grownBy w7 (some w6.heap.size))
    (h2 : w8.ownsRow w.heap.size 75 3 v2 (0 + (S.take p).length + R.length) ([] ++ flatE (S.take p) ++ flatE R)) (hg2 : w7.grownBy w8 v1.ownBlock) (hat : v1.ownBlock = some w6.heap.size ∨ v1.ownBlock = some (w6.alloc o).heap.size) {T : List Et} (hT : S.take p ++ R = T) :
    w8.cell? ⟨rb, 0, none⟩ = some v ∧ w8.frozen? ⟨rb, 0, none⟩ = false ∧ RTurn lo w rb v0 T (w8.setCell ⟨rb, 0, none⟩ v2) := by
  have h67 : Below W.heap.size W w7 := (h6.alloc h6.size o).grown hg1 (by simp; have := h6.size; omega) fun k e => by cases e; exact h6.size
  have h68 : Below W.heap.size W w8 := h67.grown hg2 h67.size fun k e => by
    have := h6.size
    rcases hat with h | h
    · rw [h] at e; cases e; exact this
    · rw [h] at e; cases e; exact Nat.le_trans this (by simp)
  have hrb8 := hrb.below h68
  rw [List.nil_append, ← flatE_app, hT] at h2
  have hlen : 0 + (S.take p).length + R.length = T.length := by rw [← hT, List.length_append]; omega
  rw [hlen] at h2
  refine ⟨hrb8.cells.1, hrb8.cells.2, v2, rb_put hrb8 (ownsRow_base h2 hlo) (fun e => by have := (h2.lt _ e).1; omega), ?_, fun g e => .inr (h2.lt g e).1⟩
  exact Keep.setCell (hk.trans (q := fun _ => True) (Keep.of_below h68) fun _ _ _ => trivial) _ _ fun k _ h => h.1
end Go.Proofs.YtfcdgfjpmcapkaaGreat
