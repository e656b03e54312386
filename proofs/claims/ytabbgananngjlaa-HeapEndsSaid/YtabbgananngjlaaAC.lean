/- Walks of the law's theirs, same, over. -/
import Derived.Test.YtabbgananngjlaaAA
namespace Go.Proofs.Ytabbgananngjlaa
open Go.ChangeShapes Go.WideShapes Go.ChangeAt Go.RowKit
set_option linter.unusedVariables false

def TheirsR (w : World) (l : List It) (e : Ending) (w' : World) : Prop := ∃ v, e = .returned v ∧ w'.ownsRow w.heap.size 43 2 v l.length (flat l) ∧ Below w.heap.size w w'

theorem pick_ne (a : Int) : (a != a) = false := by simp

set_option maxRecDepth 100000 in
set_option maxHeartbeats 1000000 in
theorem theirs_any {w : World} {v : Value} {l : List It} (h : PR w v l) (hl : l.length ≤ 1000000) : Calls Try.prog 11 #[v] w (TheirsR w l) := by
  obtain ⟨i0, hi, hz0, hz1, hz2⟩ := info_parts info43
  have H := Lib.hid h
  obtain ⟨A, c, rfl, _⟩ := h
  obtain ⟨n, hn⟩ : ∃ n, l.length = n := ⟨_, rfl⟩
  have HN := Lib.hid hn
  rw [hn] at H hl
  rw [hn]
  clear hn
  go_enter Try.func11, Try.ntmps11
  go_wp2_with fail
  go_loopw [3, 4] (fun o i wr => ∃ q : Nat, q ≤ n ∧ i = .int .i64 q ∧ wr.ownsRow w.heap.size 43 2 o q (flat (l.take q)) ∧ Below w.heap.size w wr) (fun _ i _ => n - (intOf i).toNat)
  case atStart => exact ⟨0, Nat.zero_le _, rfl, World.ownsRow_nil _ _ _ _, Below.refl _ _⟩
  case round =>
    obtain ⟨q, hq, rfl, hrow, hb⟩ := hrel
    have HB := Lib.hid hb
    have hbs := hb.size
    obtain ⟨Ao, co, rfl, _⟩ := row_form hrow
    by_cases hlt : q < n
    · obtain ⟨ad, e1, hx9, hx8, x1, x2⟩ := PR.at2 (H.out.below hb) (k := q) (by rw [HN.out]; exact hlt)
      subst e1
      obtain ⟨x, hx⟩ : ∃ x, g l q = x := ⟨_, rfl⟩
      rw [hx] at x1 x2
      have HX := Lib.hid hx
      clear hx9 hb hx
      have hro := (hrow.alloc (.cells #[.int .i64 x.1, .int .i64 x.2] 43)).drew
      have hpn : PR (wr.alloc (.cells #[.int .i64 x.1, .int .i64 x.2] 43)).drew (.slice (some ⟨wr.heap.size, 0, none⟩) 1 1) [x] := (pr_newT wr 43 [x] 1 1 rfl).below (Below.refl _ _).drew
      clear hrow
      go_wp2_with fail
      have hqi : (q : Int) < (n : Int) := by omega
      go_region_law ((refine step_append_pr rfl (.tmp 11) (.tmp 23) rfl (base := w.heap.size) Try.underlying30 hi hz0 hz1 hz2 (v := .slice Ao q co) (by simp [Act.eval, Act.put]) hro (v2 := .slice (some ⟨wr.heap.size, 0, none⟩) 1 1) (by simp [Act.eval, Act.put]) hpn (by simp; omega) (by simp; omega) ?_; intro v6 w6 hown6 hgrow6 _))
      all_goals
        have h6 : Below w.heap.size w w6 := ((HB.out.alloc hbs _).drew).grown hgrow6 (by simp; omega) fun k e => (hro.lt k e).1
        have hown7 : w6.ownsRow w.heap.size 43 2 v6 (q + 1) (flat (l.take (q + 1))) := by
          rw [List.take_succ_eq_append_getElem (by rw [HN.out]; exact hlt), ← g_get, HX.out, flat_app]
          exact hown6
        have H6 := Lib.hid h6
        have HO := Lib.hid hown7
        clear h6 hown7 hown6 hgrow6 hro hpn x1 x2
        go_wp2_with fail
        go_roundw
        case rel => exact ⟨q + 1, by omega, by go_num, HO.out, H6.out⟩
        case measure => simp [intOf] <;> omega
    · obtain rfl : n = q := by omega
      rw [List.take_of_length_le (by rw [HN.out]; exact Nat.le_refl _)] at hrow
      have HR := Lib.hid hrow
      clear hrow hb
      go_wp2_with fail
      go_ret
      exact ⟨.slice Ao n co, rfl, by rw [HN.out]; exact HR.out, HB.out⟩

set_option maxRecDepth 100000 in
set_option maxHeartbeats 1000000 in
theorem same_any {w : World} {v1 v2 : Value} {l : List It} (h1 : PR w v1 l) (h2 : PR w v2 l) (hl : l.length ≤ 1000000) : Calls Try.prog 18 #[v1, v2] w fun e w' => e = .returned (.bool true) ∧ Below w.heap.size w w' := by
  have H1 := Lib.hid h1
  have H2 := Lib.hid h2
  obtain ⟨A, c, rfl, _⟩ := h1
  obtain ⟨B, d, rfl, _⟩ := h2
  obtain ⟨n, hn⟩ : ∃ n, l.length = n := ⟨_, rfl⟩
  have HN := Lib.hid hn
  rw [hn] at H1 H2 hl
  rw [hn]
  clear hn
  go_enter Try.func18, Try.ntmps18
  go_wp2_with fail
  go_loopw [5] (fun i wr => ∃ q : Nat, q ≤ n ∧ i = .int .i64 q ∧ Below w.heap.size w wr) (fun i _ => n - (intOf i).toNat)
  case atStart => exact ⟨0, Nat.zero_le _, rfl, Below.refl _ _⟩
  case round =>
    obtain ⟨q, hq, rfl, hb⟩ := hrel
    have HB := Lib.hid hb
    clear hb
    by_cases hlt : q < n
    · obtain ⟨ad, e1, hx9, hx8, x1, x2⟩ := PR.at2 (H1.out.below HB.out) (k := q) (by rw [HN.out]; exact hlt)
      subst e1
      obtain ⟨ad2, e2, hy9, hy8, y1, y2⟩ := PR.at2 (H2.out.below HB.out) (k := q) (by rw [HN.out]; exact hlt)
      subst e2
      obtain ⟨x, hx⟩ : ∃ x, g l q = x := ⟨_, rfl⟩
      rw [hx] at x1 x2 y1 y2
      clear hx9 hx8 hy9 hy8 hx
      go_upto_region 4 with (fail)
      go_quiet (fail)
      have hbq : Below w.heap.size w (wr.drewN nq) := HB.out.trans ⟨rfl, rfl, rfl, Nat.le_refl _, fun _ _ => rfl⟩
      have HBQ := Lib.hid hbq
      clear hbq x1 x2 y1 y2
      generalize wr.drewN nq = WT at *
      go_wp2_with fail
      go_roundw
      case rel => exact ⟨q + 1, by omega, by go_num, HBQ.out⟩
      case measure => simp [intOf] <;> omega
    · obtain rfl : n = q := by omega
      go_wp2_with fail
      go_ret
      exact ⟨rfl, HB.out⟩

set_option maxRecDepth 100000 in
theorem over_any {w : World} {base : Nat} {v : Value} {l : List It} (h : w.ownsRow base 40 2 v l.length (flat l)) (hl : l.length ≤ 1000000) : Calls Try.prog 12 #[v] w fun e w' => e = .returned (.tuple #[]) ∧ Keep (fun k => v.ownBlock ≠ some k) w w' := by
  obtain ⟨n, hn⟩ : ∃ n, l.length = n := ⟨_, rfl⟩
  rw [hn] at h hl
  obtain ⟨A, c, rfl, hf, _⟩ := row_form h
  have HN := Lib.hid hn
  have H := Lib.hid h
  clear h hn
  go_enter Try.func12, Try.ntmps12
  go_wp2_with fail
  go_loopw [2] (fun i wr => ∃ q : Nat, q ≤ n ∧ i = .int .i64 q ∧ ∃ l' : List It, l'.length = n ∧ wr.ownsRow base 40 2 (.slice A n c) n (flat l') ∧ Keep (fun k => (Value.slice A n c).ownBlock ≠ some k) w wr) (fun i _ => n - (intOf i).toNat)
  case atStart => exact ⟨0, Nat.zero_le _, rfl, l, HN.out, H.out, Keep.refl _ _⟩
  case round =>
    obtain ⟨q, hq, rfl, l', hl', hrow, hk⟩ := hrel
    by_cases hlt : q < n
    · obtain ⟨gg, rfl, _⟩ := hf (by omega)
      obtain ⟨x1, x2⟩ := row_at hrow (k := q) (by omega)
      have hfz : ∀ k, wr.frozen? ⟨gg, k, none⟩ = false := by
        obtain ⟨_, cap, cur, e, _, hg, _⟩ := hrow.2.resolve_left (by simp)
        injection e with e1
        injection e1 with e1
        injection e1 with e1
        subst e1
        intro k
        simp [World.frozen?, hg]
      have z1 := hfz (q * 2)
      have z2 := hfz (q * 2 + 1)
      have HR := Lib.hid (own_set hrow (k := q) (by omega) (-77, 77))
      have HK := Lib.hid hk
      have HL := Lib.hid hl'
      clear hfz hrow hk hf hl'
      go_wp2_with fail
      go_roundw
      case rel =>
        refine ⟨q + 1, by omega, by go_num, l'.set q (-77, 77), by rw [List.length_set]; exact HL.out, HR.out, ?_⟩
        exact Keep.setCell (Keep.setCell HK.out _ _ fun i _ hp e => hp (by rw [e]; rfl)) _ _ fun i _ hp e => hp (by rw [e]; rfl)
      case measure => simp [intOf] <;> omega
    · obtain rfl : n = q := by omega
      have HK := Lib.hid hk
      clear hk hrow
      go_wp2_with fail
      go_end0
      exact ⟨rfl, HK.out⟩
end Go.Proofs.Ytabbgananngjlaa
