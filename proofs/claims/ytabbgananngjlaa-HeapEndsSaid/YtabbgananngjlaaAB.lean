/- Walk of the reference's Push. -/
import Derived.Test.YtabbgananngjlaaAA
namespace Go.Proofs.Ytabbgananngjlaa
open Go.ChangeShapes Go.WideShapes Go.ChangeAt Go.RowKit
set_option linter.unusedVariables false

/-- an item put in behind all that are not behind it -/
theorem ins_at {S : List It} {x : It} {k : Nat} (h : Srt S) (hk : k ≤ S.length) (h1 : ∀ j, j < k → le (g S j) x = true) (h2 : k < S.length → le x (g S k) = true) (S0 T : List It) (hS : S = srt (S0 ++ T)) : S.take k ++ (x :: S.drop k) = srt (S0 ++ (T ++ [x])) := by
  have hp : (S.take k ++ (x :: S.drop k)).Perm (S0 ++ (T ++ [x])) := by
    have e1 : (S.take k ++ (x :: S.drop k)).Perm (x :: (S.take k ++ S.drop k)) := List.perm_middle
    rw [List.take_append_drop] at e1
    have e2 : (x :: S).Perm (S ++ [x]) := (List.perm_append_comm (l₁ := [x]) (l₂ := S))
    refine e1.trans (e2.trans ?_)
    rw [← List.append_assoc]
    refine List.Perm.append_right [x] ?_
    rw [hS]
    exact srt_perm _
  have hs : Srt (S.take k ++ (x :: S.drop k)) := by
    unfold Srt at h ⊢
    rw [List.pairwise_append]
    have hab := List.take_append_drop k S
    have h3 := h
    rw [← hab, List.pairwise_append] at h3
    have hbeh : ∀ y ∈ S.drop k, le x y = true := by
      intro y hy
      obtain ⟨j, hj, rfl⟩ := List.getElem_of_mem hy
      rw [List.length_drop] at hj
      have h4 := h2 (by omega)
      rw [List.getElem_drop]
      by_cases hj0 : j = 0
      · subst hj0
        rw [g_get (by omega)] at h4
        exact h4
      · have h5 := srt_le (S := S) h (i := k) (j := k + j) (by omega) (by omega)
        rw [g_get (i := k + j) (by omega)] at h5
        exact le_trans h4 h5
    have hfro : ∀ y ∈ S.take k, le y x = true := by
      intro y hy
      obtain ⟨j, hj, rfl⟩ := List.getElem_of_mem hy
      rw [List.length_take] at hj
      have h4 := h1 j (by omega)
      rw [g_get (by omega)] at h4
      rw [List.getElem_take]
      exact h4
    refine ⟨h3.1, List.pairwise_cons.2 ⟨hbeh, h3.2.1⟩, ?_⟩
    intro a ha b hb
    rcases List.mem_cons.1 hb with rfl | hb
    · exact hfro a ha
    · exact h3.2.2 a ha b hb
  exact hs.eq (srt_srt _) (hp.trans (srt_perm _).symm)

theorem pr_from {w : World} {ad : Addr} {c p : Nat} {S : List It} (h : PR w (.slice (some ad) S.length c) S) (hp : p ≤ S.length) (hc : S.length ≤ c) : PR w (.slice (if c = p then some ad else some (ad.add (p * 2))) (S.length - p) (c - p)) (S.drop p) := by
  split
  · exact h.drop hp rfl fun h1 => by omega
  · exact h.drop hp rfl fun _ => rfl
theorem rest_row {w : World} {base : Nat} {v : Value} {x : It} {T : List It} (h : w.ownsRow base 43 2 v (1 + T.length) ([.int .i64 x.1, .int .i64 x.2] ++ flat T)) : PR w v (x :: T) := by
  have e : [Value.int .i64 x.1, .int .i64 x.2] ++ flat T = flat (x :: T) := by simp [flat, enc]
  rw [e] at h
  exact PR.of_own h

/-- the end of one item's way into the reference's heap -/
theorem push_end {w W w6 w7 w8 : World} {rb c p : Nat} {A0 A : Option Addr} {S : List It} {x : It} {v1 v2 : Value} {o : Obj} (hk : Keep (fun k => k ≠ rb) w W) (hrb : RB W rb A c S) (hlt : rb < w.heap.size) (h6 : Below W.heap.size W w6)
    (h1 : w7.ownsRow w.heap.size 43 2 v1 (0 + (S.take p).length) ([] ++ flat (S.take p))) (hg1 : (w6.alloc o).grownBy w7 (some w6.heap.size))
    (h2 : w8.ownsRow w.heap.size 43 2 v2 (0 + (S.take p).length + (x :: S.drop p).length) ([] ++ flat (S.take p) ++ flat (x :: S.drop p))) (hg2 : w7.grownBy w8 v1.ownBlock) (hat : v1.ownBlock = some w6.heap.size ∨ v1.ownBlock = some (w6.alloc o).heap.size) {T : List It} (hT : S.take p ++ (x :: S.drop p) = T) :
    ∃ g c2, v2 = .slice (some ⟨g, 0, none⟩) T.length c2 ∧ w8.cell? ⟨rb, 0, none⟩ = some (.slice A S.length c) ∧ w8.frozen? ⟨rb, 0, none⟩ = false ∧ RTurn w rb A0 T (w8.setCell ⟨rb, 0, none⟩ (.slice (some ⟨g, 0, none⟩) T.length c2)) := by
  have h67 : Below W.heap.size W w7 := (h6.alloc h6.size o).grown hg1 (by simp; have := h6.size; omega) fun k e => by cases e; exact h6.size
  have h68 : Below W.heap.size W w8 := h67.grown hg2 h67.size fun k e => by
    have := h6.size
    rcases hat with h | h
    · rw [h] at e; cases e; exact this
    · rw [h] at e; cases e; exact Nat.le_trans this (by simp)
  have hrb8 := hrb.below h68
  rw [List.nil_append, ← flat_app, hT] at h2
  have hlen : 0 + (S.take p).length + (x :: S.drop p).length = T.length := by rw [← hT, List.length_append]; omega
  rw [hlen] at h2
  have hpos : 0 < T.length := by rw [← hT]; simp; omega
  obtain ⟨A2, c2, rfl, hf, hc1, hc2⟩ := row_form h2
  obtain ⟨g, rfl, hg, hgl⟩ := hf hpos
  have hp2 : PR w8 (.slice (some ⟨g, 0, none⟩) T.length c2) T := PR.of_own h2
  refine ⟨g, c2, rfl, hrb8.cells.1, hrb8.cells.2, some ⟨g, 0, none⟩, c2, rb_put hrb8 hp2 rfl hc1 hc2 (fun e => by cases e) (fun ad e => by cases e; exact ⟨hgl, by show g ≠ rb; omega⟩), ?_, fun ad e => by cases e; exact .inr hg⟩
  exact Keep.setCell (hk.trans (q := fun _ => True) (Keep.of_below h68) fun _ _ _ => trivial) _ _ fun k _ h => h

set_option maxRecDepth 100000 in
set_option maxHeartbeats 2000000 in
theorem rPush_any {w : World} {rb c0 : Nat} {A0 : Option Addr} {S0 : List It} (h : RB w rb A0 c0 S0) (hs : Srt S0) {v : Value} {l : List It} (hv : PR w v l) (hoff : 0 < l.length → ∀ g, v.ownBlock = some g → g ≠ rb) (hl : S0.length + l.length ≤ 1000000) :
    Calls Try.prog 15 #[.pointer (some ⟨rb, 0, none⟩), v] w fun e w' => e = .returned (.tuple #[]) ∧ RTurn w rb A0 (srt (S0 ++ l)) w' := by
  obtain ⟨i0, hi, hz0, hz1, hz2⟩ := info_parts info43
  have HV := Lib.hid hv
  obtain ⟨AV, cv, rfl, _⟩ := hv
  obtain ⟨n, hn⟩ : ∃ n, l.length = n := ⟨_, rfl⟩
  have HN := Lib.hid hn
  have HOF := Lib.hid hoff
  have HB := Lib.hid h
  have HSS := Lib.hid hs
  have hlt0 := h.ltb
  rw [hn] at hl ⊢
  rw [hn] at HV HOF
  clear h hs hoff hn
  go_enter Try.func15, Try.ntmps15
  go_wp2_with fail
  go_loopw [4] (fun i wr => ∃ q : Nat, q ≤ n ∧ i = .int .i64 q ∧ RTurn w rb A0 (srt (S0 ++ l.take q)) wr) (fun i _ => n - (intOf i).toNat)
  case atStart => exact ⟨0, Nat.zero_le _, rfl, A0, c0, by simpa [srt_of HSS.out] using HB.out, Keep.refl _ _, fun ad e => .inl ⟨ad, e, rfl⟩⟩
  case round =>
    obtain ⟨q, hq, rfl, A, c, hrb, hkp, hab⟩ := hrel
    have HRB := Lib.hid hrb
    have HKP := Lib.hid hkp
    have HAB := Lib.hid hab
    clear hrb hkp hab
    by_cases hlt : q < n
    · obtain ⟨S, hSe⟩ : ∃ S, srt (S0 ++ l.take q) = S := ⟨_, rfl⟩
      rw [hSe] at HRB
      have hSl : S.length ≤ 1000000 := by rw [← hSe, srt_len, List.length_append, List.length_take]; have := HN.out; omega
      have HSE := Lib.hid hSe
      have HSS1 := Lib.hid (show Srt S by rw [← hSe]; exact srt_srt _)
      have hvr := HV.out.keep HKP.out fun h0 g hg _ => HOF.out (by have := HN.out; omega) g hg
      have HVR := Lib.hid hvr
      obtain ⟨x, hx⟩ : ∃ x, g l q = x := ⟨_, rfl⟩
      have HX := Lib.hid hx
      clear hSe hvr hx
      go_wp2_with fail
      go_loopw [5] (fun k wq => ∃ p : Nat, p ≤ S.length ∧ k = .int .i64 p ∧ (∀ j, j < p → le (g S j) x = true) ∧ Below wr.heap.size wr wq) (fun k _ => S.length - (intOf k).toNat)
      case atStart => exact ⟨0, Nat.zero_le _, rfl, fun j hj => by omega, Below.refl _ _⟩
      case round =>
        obtain ⟨p, hp, rfl, hle, hbq⟩ := hrel
        have HBQ := Lib.hid hbq
        have HLE := Lib.hid hle
        have hrbq := HRB.out.below hbq
        have HRBQ := Lib.hid hrbq
        obtain ⟨d0, d1⟩ := hrbq.cells
        clear hle hbq hrbq
        by_cases hpl : p < S.length
        · have hpl' : (p : Int) < (S.length : Int) := by omega
          have hql' : (q : Int) < (n : Int) := by omega
          obtain ⟨ad, e1, hx9, hx8, x1, x2⟩ := PR.at2 (HVR.out.below HBQ.out) (k := q) (by rw [HN.out]; exact hlt)
          subst e1
          rw [HX.out] at x1 x2
          obtain ⟨ad2, e2, hy9, hy8, y1, y2⟩ := PR.at2 HRBQ.out.row (k := p) hpl
          subst e2
          obtain ⟨y, hy⟩ : ∃ y, g S p = y := ⟨_, rfl⟩
          rw [hy] at y1 y2
          have HY := Lib.hid hy
          clear hx9 hx8 hy9 hy8 hy
          go_upto_region 4 with (fail)
          go_still_tail 19, (by kernel_rfl)
          change wpList _ _ _ _ _ wr.drew
          have hbd : Below wr.heap.size wr wr.drew := (Below.refl _ _).drew
          have HBD := Lib.hid hbd
          clear hbd x1 x2 y1 y2 d0 d1
          generalize wr.drew = WD at *
          go_wp2_with fail
          refine (rAhead_any x y _).mono ?_
          rintro e WT ⟨rfl, hbT⟩
          have hBT := HBQ.out.trans ((HBD.out.trans (hbT.mono HBD.out.size)).mono HBQ.out.size)
          have HBT := Lib.hid hBT
          clear hbT hBT
          by_cases hyx : le y x = true
          · rw [hyx]
            go_wp2_with fail
            go_roundw
            case rel =>
              refine ⟨p + 1, by omega, by go_num, fun j hj => ?_, HBT.out⟩
              by_cases hjp : j = p
              · subst hjp
                rw [HY.out]
                exact hyx
              · exact HLE.out j (by omega)
            case measure => simp [intOf] <;> omega
          · have hyx' : le y x = false := by simpa using hyx
            rw [hyx']
            have hend : p < S.length → le x (g S p) = true := fun _ => by rw [HY.out]; exact le_of_false hyx'
            have HEND := Lib.hid hend
            clear hyx hyx' hend hpl'
            have hrbT := HRB.out.below HBT.out
            have HRBT := Lib.hid hrbT
            obtain ⟨d0, d1⟩ := hrbT.cells
            obtain ⟨ad, e1, hx9, hx8, x1, x2⟩ := PR.at2 (HVR.out.below HBT.out) (k := q) (by rw [HN.out]; exact hlt)
            injection e1 with e1
            subst e1
            rw [HX.out] at x1 x2
            clear hx9 hx8 hrbT
            go_wp2_with fail
            have hcp : (p : Int) ≤ (c : Int) := by have := HRBT.out.cap; omega
            have hpS : (p : Int) ≤ (S.length : Int) := by omega
            have hrl := HRBT.out.ltb
            have hab2 := (HRBT.out.lt ad2 rfl).1
            have hbw : Below WT.heap.size WT (WT.alloc (.cells #[.int .i64 x.1, .int .i64 x.2] 43)).drew := ((Below.refl _ WT).alloc (Nat.le_refl _) _).drew
            have hpA := pr_from (HRBT.out.row.below hbw) hp HRBT.out.cap
            have hw0 : w.heap.size ≤ WT.heap.size := Nat.le_trans HKP.out.size HBT.out.size
            have hro : (WT.alloc (.cells #[.int .i64 x.1, .int .i64 x.2] 43)).drew.ownsRow w.heap.size 43 2 (.slice (some ⟨WT.heap.size, 0, none⟩) 1 1) 1 [.int .i64 x.1, .int .i64 x.2] := (World.ownsRow_lit WT #[.int .i64 x.1, .int .i64 x.2] 1 hw0 (by unfold maxLen; omega) rfl).drew
            have HBW := Lib.hid hbw
            clear hbw
            go_region_law ((refine step_append_pr rfl (.tmp 41) (.tmp 47) rfl (base := w.heap.size) Try.underlying30 hi hz0 hz1 hz2 (v := .slice (some ⟨WT.heap.size, 0, none⟩) 1 1) (by simp [Act.eval, Act.put]) hro (v2 := .slice (if c = p then some ad2 else some (ad2.add (p * 2))) (S.length - p) (c - p)) (by simp [Act.eval, Act.put]) hpA (by simp; omega) (by simp; omega) ?_; intro v6 w6 hown6 hgrow6 _))
            all_goals
              have h6 : Below WT.heap.size WT w6 := HBW.out.grown hgrow6 HBW.out.size fun k e => by cases e; exact Nat.le_refl _
              have hr6 := HRBT.out.below h6
              have hrest := rest_row hown6
              obtain ⟨A6, c6, rfl, _⟩ := row_form hown6
              rw [List.length_drop] at hrest
              have hw6 : w.heap.size ≤ w6.heap.size := Nat.le_trans hw0 h6.size
              have hal : Below w6.heap.size w6 (w6.alloc (.cells #[] 43)) := (Below.refl _ w6).alloc (Nat.le_refl _) _
              have hro7 : (w6.alloc (.cells #[] 43)).ownsRow w.heap.size 43 2 (.slice (some ⟨w6.heap.size, 0, none⟩) 0 0) 0 [] := World.ownsRow_lit w6 #[] 0 hw6 (by unfold maxLen; omega) rfl
              have hpT : PR (w6.alloc (.cells #[] 43)) (.slice (some ad2) p c) (S.take p) := (hr6.row.below hal).take hp
              obtain ⟨d4, d5⟩ := hr6.cells
              have hrl6 := hr6.ltb
              have H6 := Lib.hid h6
              have HREST := Lib.hid hrest
              have HAL := Lib.hid hal
              have hdl : (S.drop p).length ≤ 1000000 := by rw [List.length_drop]; omega
              clear h6 hr6 hrest hown6 hgrow6 hal hpA hro d0 d1 x1 x2
              go_wp2_with (at_builtin; first | (refine wpList_append_pr rfl _ _ rfl (base := w.heap.size) Try.underlying30 hi hz0 hz1 hz2 (v := .slice (some ⟨w6.heap.size, 0, none⟩) 0 0) rfl hro7 (v2 := .slice (some ad2) p c) rfl hpT (by simp; omega) (by simp; omega) ?_; intro v7 w7 hown7 hgrow7 hat7) | (refine wpList_append_pr rfl _ _ rfl (base := w.heap.size) Try.underlying30 hi hz0 hz1 hz2 (v := v7) rfl hown7 (v2 := .slice A6 (1 + (S.length - p)) c6) rfl (HREST.out.below ((HAL.out.grown hgrow7 HAL.out.size fun k e => by cases e; exact Nat.le_refl _))) (by simp; omega) (by have := hgrow7.size; simp at this; omega) ?_; intro v8 w8 hown8 hgrow8 _; obtain ⟨g8, c8, rfl, z1, z2, ht8⟩ := push_end (A0 := A0) HKP.out HRB.out hlt0 (HBT.out.trans (H6.out.mono HBT.out.size)) hown7 hgrow7 hown8 hgrow8 hat7 (ins_at HSS1.out hp HLE.out HEND.out S0 (l.take q) HSE.out.symm); have HT8 := Lib.hid ht8; clear ht8))
              go_roundw
              case rel => exact ⟨q + 1, by omega, by go_num, by rw [List.take_succ_eq_append_getElem (by rw [HN.out]; exact hlt), ← g_get, HX.out]; exact HT8.out⟩
              case measure => simp [intOf] <;> omega
        · have hpe : S.length = p := by omega
          have hnl : ¬ (p : Int) < (S.length : Int) := by omega
          go_upto_region 4 with (fail)
          go_quiet (fail)
          have hbd : Below wr.heap.size wr (wr.drewN nq) := ⟨rfl, rfl, rfl, Nat.le_refl _, fun _ _ => rfl⟩
          have hBT := HBQ.out.trans (hbd.mono HBQ.out.size)
          have HBT := Lib.hid hBT
          clear hbd hBT d0 d1 hnl
          generalize wr.drewN nq = WT at *
          have hend : p < S.length → le x (g S p) = true := fun h => by omega
          have HEND := Lib.hid hend
          have HPE := Lib.hid hpe
          clear hend hpe hpl
          cases A with
          | some ad2 =>
            have hrbT := HRB.out.below HBT.out
            have HRBT := Lib.hid hrbT
            obtain ⟨d0, d1⟩ := hrbT.cells
            obtain ⟨ad, e1, hx9, hx8, x1, x2⟩ := PR.at2 (HVR.out.below HBT.out) (k := q) (by rw [HN.out]; exact hlt)
            subst e1
            rw [HX.out] at x1 x2
            clear hx9 hx8 hrbT
            go_wp2_with fail
            have hcp : (p : Int) ≤ (c : Int) := by have := HRBT.out.cap; omega
            have hpS : (p : Int) ≤ (S.length : Int) := by omega
            have hrl := HRBT.out.ltb
            have hab2 := (HRBT.out.lt ad2 rfl).1
            have hbw : Below WT.heap.size WT (WT.alloc (.cells #[.int .i64 x.1, .int .i64 x.2] 43)).drew := ((Below.refl _ WT).alloc (Nat.le_refl _) _).drew
            have hpA := pr_from (HRBT.out.row.below hbw) hp HRBT.out.cap
            have hw0 : w.heap.size ≤ WT.heap.size := Nat.le_trans HKP.out.size HBT.out.size
            have hro : (WT.alloc (.cells #[.int .i64 x.1, .int .i64 x.2] 43)).drew.ownsRow w.heap.size 43 2 (.slice (some ⟨WT.heap.size, 0, none⟩) 1 1) 1 [.int .i64 x.1, .int .i64 x.2] := (World.ownsRow_lit WT #[.int .i64 x.1, .int .i64 x.2] 1 hw0 (by unfold maxLen; omega) rfl).drew
            have HBW := Lib.hid hbw
            clear hbw
            go_region_law ((refine step_append_pr rfl (.tmp 41) (.tmp 47) rfl (base := w.heap.size) Try.underlying30 hi hz0 hz1 hz2 (v := .slice (some ⟨WT.heap.size, 0, none⟩) 1 1) (by simp [Act.eval, Act.put]) hro (v2 := .slice (if c = p then some ad2 else some (ad2.add (p * 2))) (S.length - p) (c - p)) (by simp [Act.eval, Act.put]) hpA (by simp; omega) (by simp; omega) ?_; intro v6 w6 hown6 hgrow6 _))
            all_goals
              have h6 : Below WT.heap.size WT w6 := HBW.out.grown hgrow6 HBW.out.size fun k e => by cases e; exact Nat.le_refl _
              have hr6 := HRBT.out.below h6
              have hrest := rest_row hown6
              obtain ⟨A6, c6, rfl, _⟩ := row_form hown6
              rw [List.length_drop] at hrest
              have hw6 : w.heap.size ≤ w6.heap.size := Nat.le_trans hw0 h6.size
              have hal : Below w6.heap.size w6 (w6.alloc (.cells #[] 43)) := (Below.refl _ w6).alloc (Nat.le_refl _) _
              have hro7 : (w6.alloc (.cells #[] 43)).ownsRow w.heap.size 43 2 (.slice (some ⟨w6.heap.size, 0, none⟩) 0 0) 0 [] := World.ownsRow_lit w6 #[] 0 hw6 (by unfold maxLen; omega) rfl
              have hpT : PR (w6.alloc (.cells #[] 43)) (.slice (some ad2) p c) (S.take p) := (hr6.row.below hal).take hp
              obtain ⟨d4, d5⟩ := hr6.cells
              have hrl6 := hr6.ltb
              have H6 := Lib.hid h6
              have HREST := Lib.hid hrest
              have HAL := Lib.hid hal
              have hdl : (S.drop p).length ≤ 1000000 := by rw [List.length_drop]; omega
              clear h6 hr6 hrest hown6 hgrow6 hal hpA hro d0 d1 x1 x2
              go_wp2_with (at_builtin; first | (refine wpList_append_pr rfl _ _ rfl (base := w.heap.size) Try.underlying30 hi hz0 hz1 hz2 (v := .slice (some ⟨w6.heap.size, 0, none⟩) 0 0) rfl hro7 (v2 := .slice (some ad2) p c) rfl hpT (by simp; omega) (by simp; omega) ?_; intro v7 w7 hown7 hgrow7 hat7) | (refine wpList_append_pr rfl _ _ rfl (base := w.heap.size) Try.underlying30 hi hz0 hz1 hz2 (v := v7) rfl hown7 (v2 := .slice A6 (1 + (S.length - p)) c6) rfl (HREST.out.below ((HAL.out.grown hgrow7 HAL.out.size fun k e => by cases e; exact Nat.le_refl _))) (by simp; omega) (by have := hgrow7.size; simp at this; omega) ?_; intro v8 w8 hown8 hgrow8 _; obtain ⟨g8, c8, rfl, z1, z2, ht8⟩ := push_end (A0 := A0) HKP.out HRB.out hlt0 (HBT.out.trans (H6.out.mono HBT.out.size)) hown7 hgrow7 hown8 hgrow8 hat7 (ins_at HSS1.out hp HLE.out HEND.out S0 (l.take q) HSE.out.symm); have HT8 := Lib.hid ht8; clear ht8))
              go_roundw
              case rel => exact ⟨q + 1, by omega, by go_num, by rw [List.take_succ_eq_append_getElem (by rw [HN.out]; exact hlt), ← g_get, HX.out]; exact HT8.out⟩
              case measure => simp [intOf] <;> omega
          | none =>
            have hS0 : S = [] := by
              rcases Nat.eq_zero_or_pos S.length with h0 | h0
              · exact List.eq_nil_of_length_eq_zero h0
              · obtain ⟨ad2, e2, _⟩ := PR.at2 HRBQ.out.row h0
                cases e2
            have hc0 : c = 0 := HRBQ.out.nil rfl
            subst hS0
            subst hc0
            have hp0 : p = 0 := by have := HPE.out; simpa using this.symm
            subst hp0
            have hrbT := HRB.out.below HBT.out
            have HRBT := Lib.hid hrbT
            obtain ⟨d0, d1⟩ := hrbT.cells
            obtain ⟨ad, e1, hx9, hx8, x1, x2⟩ := PR.at2 (HVR.out.below HBT.out) (k := q) (by rw [HN.out]; exact hlt)
            subst e1
            rw [HX.out] at x1 x2
            clear hx9 hx8 hrbT
            go_wp2_with fail
            have hrl := HRBT.out.ltb
            have hbw : Below WT.heap.size WT (WT.alloc (.cells #[.int .i64 x.1, .int .i64 x.2] 43)).drew := ((Below.refl _ WT).alloc (Nat.le_refl _) _).drew
            have hpA : PR (WT.alloc (.cells #[.int .i64 x.1, .int .i64 x.2] 43)).drew (.slice none 0 0) (List.drop 0 ([] : List It)) := ⟨none, 0, rfl, fun h => absurd h (by simp)⟩
            have hw0 : w.heap.size ≤ WT.heap.size := Nat.le_trans HKP.out.size HBT.out.size
            have hro : (WT.alloc (.cells #[.int .i64 x.1, .int .i64 x.2] 43)).drew.ownsRow w.heap.size 43 2 (.slice (some ⟨WT.heap.size, 0, none⟩) 1 1) 1 [.int .i64 x.1, .int .i64 x.2] := (World.ownsRow_lit WT #[.int .i64 x.1, .int .i64 x.2] 1 hw0 (by unfold maxLen; omega) rfl).drew
            have HBW := Lib.hid hbw
            clear hbw
            go_region_law ((refine step_append_pr rfl (.tmp 41) (.tmp 47) rfl (base := w.heap.size) Try.underlying30 hi hz0 hz1 hz2 (v := .slice (some ⟨WT.heap.size, 0, none⟩) 1 1) (by simp [Act.eval, Act.put]) hro (v2 := .slice none 0 0) (by simp [Act.eval, Act.put]) hpA (by simp) (by simp; omega) ?_; intro v6 w6 hown6 hgrow6 _))
            all_goals
              have h6 : Below WT.heap.size WT w6 := HBW.out.grown hgrow6 HBW.out.size fun k e => by cases e; exact Nat.le_refl _
              have hr6 := HRBT.out.below h6
              have hrest := rest_row hown6
              obtain ⟨A6, c6, rfl, _⟩ := row_form hown6
              simp only [List.drop_nil, List.length_nil, Nat.add_zero] at hrest
              have hw6 : w.heap.size ≤ w6.heap.size := Nat.le_trans hw0 h6.size
              have hal : Below w6.heap.size w6 (w6.alloc (.cells #[] 43)) := (Below.refl _ w6).alloc (Nat.le_refl _) _
              have hro7 : (w6.alloc (.cells #[] 43)).ownsRow w.heap.size 43 2 (.slice (some ⟨w6.heap.size, 0, none⟩) 0 0) 0 [] := World.ownsRow_lit w6 #[] 0 hw6 (by unfold maxLen; omega) rfl
              have hpT : PR (w6.alloc (.cells #[] 43)) (.slice none 0 0) (List.take 0 ([] : List It)) := ⟨none, 0, rfl, fun h => absurd h (by simp)⟩
              obtain ⟨d4, d5⟩ := hr6.cells
              have hrl6 := hr6.ltb
              have H6 := Lib.hid h6
              have HREST := Lib.hid hrest
              have HAL := Lib.hid hal
              clear h6 hr6 hrest hown6 hgrow6 hal hpA hro d0 d1 x1 x2
              go_wp2_with (at_builtin; first | (refine wpList_append_pr rfl _ _ rfl (base := w.heap.size) Try.underlying30 hi hz0 hz1 hz2 (v := .slice (some ⟨w6.heap.size, 0, none⟩) 0 0) rfl hro7 (v2 := .slice none 0 0) rfl hpT (by simp) (by simp; omega) ?_; intro v7 w7 hown7 hgrow7 hat7) | (refine wpList_append_pr rfl _ _ rfl (base := w.heap.size) Try.underlying30 hi hz0 hz1 hz2 (v := v7) rfl hown7 (v2 := .slice A6 1 c6) rfl (HREST.out.below ((HAL.out.grown hgrow7 HAL.out.size fun k e => by cases e; exact Nat.le_refl _))) (by simp) (by have := hgrow7.size; simp at this; omega) ?_; intro v8 w8 hown8 hgrow8 _; obtain ⟨g8, c8, rfl, z1, z2, ht8⟩ := push_end (A0 := A0) HKP.out HRB.out hlt0 (HBT.out.trans (H6.out.mono HBT.out.size)) hown7 hgrow7 hown8 hgrow8 hat7 (ins_at HSS1.out hp HLE.out HEND.out S0 (l.take q) HSE.out.symm); have HT8 := Lib.hid ht8; clear ht8))
              go_roundw
              case rel => exact ⟨q + 1, by omega, by go_num, by rw [List.take_succ_eq_append_getElem (by rw [HN.out]; exact hlt), ← g_get, HX.out]; exact HT8.out⟩
              case measure => simp [intOf] <;> omega
    · obtain rfl : n = q := by omega
      go_wp2_with fail
      go_end0
      rw [List.take_of_length_le (by rw [HN.out]; exact Nat.le_refl _)] at HRB
      exact ⟨rfl, A, c, HRB.out, HKP.out, HAB.out⟩
end Go.Proofs.Ytabbgananngjlaa
