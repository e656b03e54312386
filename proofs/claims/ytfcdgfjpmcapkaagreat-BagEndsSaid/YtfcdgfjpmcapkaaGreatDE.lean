/- Walks of the reference's Put and Drop. -/
import Derived.Test.YtfcdgfjpmcapkaaGreatDD
namespace Go.Proofs.YtfcdgfjpmcapkaaGreat
open Go.ChangeShapes Go.WideShapes Go.ChangeAt Go.RowKit Go.Maps Go.Shelf
set_option linter.unusedVariables false

theorem RTurn.drew1 {lo : Nat} {w W : World} {rb : Nat} {v : Value} {S : List Et} {a : Addr} {u : Value} (h : RTurn lo w rb v S (W.setCell a u)) : RTurn lo w rb v S (W.drew.setCell a u) := h.below ⟨rfl, rfl, rfl, Nat.le_refl _, fun _ _ => rfl⟩
theorem put_take {S l : List Et} {q : Nat} {x : Et} (hq : q < l.length) (hx : ge l q = x) : putsS S (l.take (q + 1)) = putS (putsS S (l.take q)) x := by rw [putsS_succ hq, hx]

theorem posS_key : ∀ (S : List Et) (x : Et), posS S x = posS S (x.1, x.2.1, 0)
  | [], x => rfl
  | y :: S, x => by
    have ih := posS_key S x
    have e : pb y (x.1, x.2.1, 0) = pb y x := rfl
    unfold posS
    rw [e, ← ih]
/-- the end of one entry's way into, or out of, the reference's bag -/
theorem rput_end2 {lo : Nat} {w W w6 w7 w8 : World} {rb p z : Nat} {v0 v : Value} {S : List Et} {v1 v2 : Value} {R : List Et} (hk : Keep (RK rb v0) w W) (hrb : RB lo W rb v S) (hlo : lo ≤ w.heap.size) (hlt : rb < w.heap.size) (h6 : Below W.heap.size W w6) (hz : W.heap.size ≤ z)
    (h1 : w7.ownsRow w.heap.size 75 3 v1 (0 + (S.take p).length) ([] ++ flatE (S.take p))) (hg1 : w6.grownBy w7 (some z))
    (h2 : w8.ownsRow w.heap.size 75 3 v2 (0 + (S.take p).length + R.length) ([] ++ flatE (S.take p) ++ flatE R)) (hg2 : w7.grownBy w8 v1.ownBlock) (hat : v1.ownBlock = some z ∨ v1.ownBlock = some w6.heap.size) {T : List Et} (hT : S.take p ++ R = T) :
    w8.cell? ⟨rb, 0, none⟩ = some v ∧ w8.frozen? ⟨rb, 0, none⟩ = false ∧ RTurn lo w rb v0 T (w8.setCell ⟨rb, 0, none⟩ v2) := by
  have h67 : Below W.heap.size W w7 := h6.grown hg1 h6.size fun k e => by cases e; exact hz
  have h68 : Below W.heap.size W w8 := h67.grown hg2 h67.size fun k e => by
    have := h6.size
    rcases hat with h | h
    · rw [h] at e; cases e; exact hz
    · rw [h] at e; cases e; exact this
  have hrb8 := hrb.below h68
  rw [List.nil_append, ← flatE_app, hT] at h2
  have hlen : 0 + (S.take p).length + R.length = T.length := by rw [← hT, List.length_append]; omega
  rw [hlen] at h2
  refine ⟨hrb8.cells.1, hrb8.cells.2, v2, rb_put hrb8 (ownsRow_base h2 hlo) (fun e => by have := (h2.lt _ e).1; omega), ?_, fun g e => .inr (h2.lt g e).1⟩
  exact Keep.setCell (hk.trans (q := fun _ => True) (Keep.of_below h68) fun _ _ _ => trivial) _ _ fun k _ h => h.1
theorem rest_rowE {w : World} {base : Nat} {v : Value} {x : Et} {T : List Et} (h : w.ownsRow base 75 3 v (1 + T.length) ([.string x.1, .int .i64 x.2.1, .int .i64 x.2.2] ++ flatE T)) : PE w v ([x] ++ T) := by
  have e : [Value.string x.1, .int .i64 x.2.1, .int .i64 x.2.2] ++ flatE T = flatE ([x] ++ T) := by simp [flatE, encE]
  rw [e] at h
  exact PE.of_own h
theorem nil_row {w : World} {base n c : Nat} {t : TypeId} {xs : List Value} (h : w.ownsRow base t 3 (.slice none n c) n xs) : n = 0 ∧ c = 0 := by
  rcases h.2 with ⟨e, _⟩ | ⟨g, cap, cur, e, _⟩
  · injection e with _ e2 e3
    exact ⟨e2, e3⟩
  · cases e

set_option maxRecDepth 100000 in
set_option maxHeartbeats 4000000 in
theorem rPut_any {lo : Nat} {w : World} {rb : Nat} {v0 : Value} {S0 : List Et} (h : RB lo w rb v0 S0) (hs : Sd S0) (hlo : lo ≤ w.heap.size) {v : Value} {l : List Et} (hv : PE w v l) (hoff : 0 < l.length → ∀ g, v.ownBlock = some g → g ≠ rb ∧ v0.ownBlock ≠ some g) (hlt : 0 < l.length → ∀ g, v.ownBlock = some g → g < w.heap.size) (hl : S0.length + l.length ≤ 1000000) :
    Calls Tryz.prog 12 #[.pointer (some ⟨rb, 0, none⟩), v] w fun e w' => e = .returned (.tuple #[]) ∧ RTurn lo w rb v0 (putsS S0 l) w' := by
  obtain ⟨i0, hi, hz0, hz1, hz2⟩ := info_parts info75
  have HV := Lib.hid hv
  obtain ⟨AV, cv, rfl, _⟩ := hv
  obtain ⟨n, hn⟩ : ∃ n, l.length = n := ⟨_, rfl⟩
  have HN := Lib.hid hn
  have HOF := Lib.hid hoff
  have HLT := Lib.hid hlt
  have HB := Lib.hid h
  have HSS := Lib.hid hs
  have hlt0 := h.ltb
  rw [hn] at hl ⊢
  rw [hn] at HV HOF HLT
  clear h hs hoff hn hlt
  go_enter Tryz.func12, Tryz.ntmps12
  go_wp2_with fail
  go_loopw [4] (fun i wr => ∃ q : Nat, q ≤ n ∧ i = .int .i64 q ∧ RTurn lo w rb v0 (putsS S0 (l.take q)) wr) (fun i _ => n - (intOf i).toNat)
  case atStart => exact ⟨0, Nat.zero_le _, rfl, v0, HB.out, Keep.refl _ _, fun g e => .inl e⟩
  case round =>
    obtain ⟨q, hq, rfl, v1, hrb, hkp, hab⟩ := hrel
    have HRB := Lib.hid hrb
    have HKP := Lib.hid hkp
    have HAB := Lib.hid hab
    clear hrb hkp hab
    by_cases hltq : q < n
    · obtain ⟨S, hSe⟩ : ∃ S, putsS S0 (l.take q) = S := ⟨_, rfl⟩
      rw [hSe] at HRB
      have hSl : S.length ≤ 1000000 := by rw [← hSe]; have := puts_len (l.take q) S0; rw [List.length_take] at this; omega
      have hsd : Sd S := by rw [← hSe]; exact sd_puts _ HSS.out
      have hvr := HV.out.keep HKP.out fun h0 g hg _ => ⟨(HOF.out (by have := HN.out; omega) g hg).1, (HOF.out (by have := HN.out; omega) g hg).2⟩
      have HVR := Lib.hid hvr
      obtain ⟨ad, e1, _, x0, x1, x2⟩ := PE.at3 hvr (k := q) (by rw [HN.out]; exact hltq)
      subst e1
      obtain ⟨x, hx⟩ : ∃ x, ge l q = x := ⟨_, rfl⟩
      rw [hx] at x0 x1 x2
      have hput : putsS S0 (l.take (q + 1)) = putS S x := by rw [put_take (by rw [HN.out]; exact hltq) hx, hSe]
      have HX := Lib.hid hx
      have HPUT := Lib.hid hput
      have HSD := Lib.hid hsd
      obtain ⟨P, hP⟩ : ∃ P, posS S (x.1, x.2.1, 0) = P := ⟨_, rfl⟩
      obtain ⟨T, hT⟩ : ∃ T, atB S (x.1, x.2.1, 0) = T := ⟨_, rfl⟩
      have hPl : P ≤ S.length := by rw [← hP]; exact pos_le _ _
      have HPT := Lib.hid (And.intro hP hT)
      have cA : ∀ d os, Calls Tryz.prog 36 #[.pointer (some ⟨rb, 0, none⟩), .string x.1, .int .i64 x.2.1] (Sort.grow (redrawn wr d) os) fun e w'' => e = .returned (.tuple #[.int .i64 (P : Int), .bool T]) ∧ ∃ p : Regrown, w'' = Sort.grow (redrawn wr p.d) p.os := fun d os => Calls.regrown_of (by have := rAt_any (HRB.out.below (below_regrown wr d os)) hSl x.1 x.2.1; rw [HPT.out.1, HPT.out.2] at this; exact this)
      have k0 := cell_regrown x0
      have k1 := cell_regrown x1
      clear hSe hsd hvr hx hput hP hT
      go_upto_region 3 with (fail)
      refine wp_region_quiet_below (by kernel_rfl) (by kernel_rfl) ?_
      repeat (first | go_big_quiet_skip | (go_big_quiet_want; go_big_quiet_op; first | go_big_quiet_on | go_big_quiet_call (exact cA _ _)) | quiet_step (exact cA _ _))
      refine wpQuiet_nil ?_
      intro _ hw'
      obtain ⟨⟨dq, osq⟩, hw''⟩ := hw'
      subst hw''
      have hbq := below_regrown wr dq osq
      generalize Sort.grow (redrawn wr dq) osq = WT at hbq ⊢
      have hr := HRB.out.below hbq
      have HR := Lib.hid hr
      have HBQ := Lib.hid hbq
      have HKQ := Lib.hid (HKP.out.trans (q := fun _ => True) (Keep.of_below hbq) fun _ _ _ => trivial)
      obtain ⟨ad', e1, hadb, y0, y1, y2⟩ := PE.at3 (HVR.out.below hbq) (k := q) (by rw [HN.out]; exact hltq)
      injection e1 with e1
      subst e1
      have hrl := hr.ltb
      rw [HX.out] at y0 y1 y2
      obtain ⟨d0, d1⟩ := hr.cells
      clear cA k0 k1 x0 x1 x2 hbq hr
      cases T with
      | true =>
        obtain ⟨hp1, hp2⟩ := at_yes HPT.out.2
        rw [HPT.out.1] at hp1 hp2
        obtain ⟨A, c, rfl, hfm, _⟩ := HR.out.form
        obtain ⟨gg, rfl, _⟩ := hfm (by omega)
        obtain ⟨z0, z1, z2⟩ := row_at3 HR.out.row hp1
        have zf := own_loose HR.out.row (P * 3 + 2)
        obtain ⟨y, hy⟩ : ∃ y, ge S P = y := ⟨_, rfl⟩
        have hend := rb_end HR.out rfl hp1 HKQ.out (HAB.out gg rfl) (max y.2.2 x.2.2)
        have hpo : putS S x = S.set P ((ge S P).1, (ge S P).2.1, max y.2.2 x.2.2) := by
          have e1 : posS S x = P := (posS_key S x).trans HPT.out.1
          have := put_old HSD.out (x := x) (by rw [e1]; exact hp1) (by rw [e1]; exact hp2)
          rw [e1, hy] at this
          rw [this, hy]
        rw [hy] at z0 z1 z2
        rw [← hpo, ← HPUT.out] at hend
        have HEND := Lib.hid hend
        have hpi : (P : Int) < (S.length : Int) := by omega
        clear hp2 hfm hy hend hpo
        go_upto_region 5 with (fail)
        go_still_tail 21, (by kernel_rfl)
        change wpList _ _ _ _ _ WT.drew
        go_wp2_with fail
        go_roundw
        case rel => exact ⟨q + 1, by omega, by go_num, HEND.out.drew1⟩
        case measure => simp [intOf] <;> omega
      | false =>
        have hf : fnd S x.1 x.2.1 = none := pos_no (x := (x.1, x.2.1, 0)) HSD.out (at_no HPT.out.2)
        have hpn : putS S x = S.take P ++ ([x] ++ S.drop P) := by
          have e1 : posS S x = P := (posS_key S x).trans HPT.out.1
          rw [put_new hf, e1]
        have HPN := Lib.hid hpn
        obtain ⟨A, c, rfl, hfm, hcap, hbig⟩ := HR.out.form
        have hbw : Below WT.heap.size WT (WT.alloc (.cells #[.string x.1, .int .i64 x.2.1, .int .i64 x.2.2] 75)).drew := ((Below.refl _ WT).alloc (Nat.le_refl _) _).drew
        have hw0 : w.heap.size ≤ WT.heap.size := HKQ.out.size
        have hro : (WT.alloc (.cells #[.string x.1, .int .i64 x.2.1, .int .i64 x.2.2] 75)).drew.ownsRow w.heap.size 75 3 (.slice (some ⟨WT.heap.size, 0, none⟩) 1 1) 1 [.string x.1, .int .i64 x.2.1, .int .i64 x.2.2] := (World.ownsRow_lit WT #[.string x.1, .int .i64 x.2.1, .int .i64 x.2.2] 1 hw0 (by unfold maxLen; omega) rfl).drew
        have hcpi : (P : Int) ≤ (c : Int) := by omega
        have hpsi : (P : Int) ≤ (S.length : Int) := by omega
        unfold maxLen at hbig
        have HBW := Lib.hid hbw
        clear hf hpn hfm
        cases A with
        | some ad2 =>
          have hpA : PE (WT.alloc (.cells #[.string x.1, .int .i64 x.2.1, .int .i64 x.2.2] 75)).drew (.slice (if c = P then some ad2 else some (ad2.add (P * 3))) (S.length - P) (c - P)) (S.drop P) := pe_from (HR.out.pe.below hbw) hPl hcap
          go_upto_region 6 with (fail)
          go_region_law ((refine step_append_pe rfl (.tmp 55) (.tmp 61) rfl (base := w.heap.size) Tryz.underlying28 hi hz0 hz1 hz2 (v := .slice (some ⟨WT.heap.size, 0, none⟩) 1 1) (by simp [Act.eval, Act.put]) hro (v2 := (.slice (if c = P then some ad2 else some (ad2.add (P * 3))) (S.length - P) (c - P))) (by simp [Act.eval, Act.put]) hpA (by first | omega | (simp; omega) | (simp; done)) (by first | omega | (simp; omega) | (simp; done)) ?_; intro v6 w6 hown6 hgrow6 _))
          all_goals
            have h6 : Below WT.heap.size WT w6 := HBW.out.grown hgrow6 HBW.out.size fun k e => by cases e; exact Nat.le_refl _
            have hr6 := HR.out.below h6
            have hrest := rest_rowE hown6
            obtain ⟨A6, c6, rfl⟩ := row_form2 hown6
            rw [List.length_drop] at hrest
            have hw6 : w.heap.size ≤ w6.heap.size := Nat.le_trans hw0 h6.size
            have hal : Below w6.heap.size w6 (w6.alloc (.cells #[] 75)) := (Below.refl _ w6).alloc (Nat.le_refl _) _
            have hro7 : (w6.alloc (.cells #[] 75)).ownsRow w.heap.size 75 3 (.slice (some ⟨w6.heap.size, 0, none⟩) 0 0) 0 [] := World.ownsRow_lit w6 #[] 0 hw6 (by unfold maxLen; omega) rfl
            have hpT : PE (w6.alloc (.cells #[] 75)) (.slice (some ad2) P c) (S.take P) := (hr6.pe.below hal).take hPl
            obtain ⟨d4, d5⟩ := hr6.cells
            have hrl6 := hr6.ltb
            have hab6 : Below WT.heap.size WT (w6.alloc (.cells #[] 75)) := h6.trans (hal.mono h6.size)
            have H6 := Lib.hid h6
            have HAB6 := Lib.hid hab6
            have HREST := Lib.hid hrest
            have HAL := Lib.hid hal
            have hdl : (S.drop P).length ≤ 1000000 := by rw [List.length_drop]; omega
            have htl : (S.take P).length ≤ 1000000 := by rw [List.length_take]; omega
            clear h6 hr6 hrest hown6 hgrow6 hal hpA hro d0 d1 y0 y1 y2 hab6
            go_wp2_with (at_builtin; first | (refine wpList_append_pe rfl _ _ rfl (base := w.heap.size) Tryz.underlying28 hi hz0 hz1 hz2 (v := .slice (some ⟨w6.heap.size, 0, none⟩) 0 0) rfl hro7 (v2 := (.slice (some ad2) P c)) rfl hpT (by omega) (by first | omega | (simp; omega) | (simp; done)) ?_; intro v7 w7 hown7 hgrow7 hat7) | (refine wpList_append_pe rfl _ _ rfl (base := w.heap.size) Tryz.underlying28 hi hz0 hz1 hz2 (v := v7) rfl hown7 (v2 := .slice A6 (1 + (S.length - P)) c6) rfl (HREST.out.below ((HAL.out.grown hgrow7 HAL.out.size fun k e => by cases e; exact Nat.le_refl _))) (by first | omega | (simp; omega) | (simp; done)) (by have := hgrow7.size; simp at this; omega) ?_; intro v8 w8 hown8 hgrow8 _; obtain ⟨A8, c8, rfl⟩ := row_form2 hown8; obtain ⟨z1, z2, ht8⟩ := rput_end2 HKQ.out HR.out hlo hlt0 HAB6.out H6.out.size hown7 hgrow7 hown8 hgrow8 hat7 HPN.out.symm; have HT8 := Lib.hid ht8; clear ht8))
            go_roundw
            case rel => exact ⟨q + 1, by omega, by go_num, by rw [HPUT.out]; first | exact HT8.out | exact (show 0 + (S.take P).length + ([x] ++ S.drop P).length = P + (S.length - P + 1) by rw [List.length_append, List.length_take, List.length_drop, List.length_singleton]; omega) ▸ HT8.out⟩
            case measure => simp [intOf] <;> omega
        | none =>
          obtain ⟨hS0, hc0⟩ := nil_row HR.out.row
          obtain rfl : S = [] := List.eq_nil_of_length_eq_zero hS0
          subst hc0
          obtain rfl : P = 0 := by simpa using hPl
          have hpA : PE (WT.alloc (.cells #[.string x.1, .int .i64 x.2.1, .int .i64 x.2.2] 75)).drew (.slice none 0 0) (List.drop 0 ([] : List Et)) := ⟨none, 0, rfl, fun h => absurd h (by simp)⟩
          go_upto_region 6 with (fail)
          go_region_law ((refine step_append_pe rfl (.tmp 55) (.tmp 61) rfl (base := w.heap.size) Tryz.underlying28 hi hz0 hz1 hz2 (v := .slice (some ⟨WT.heap.size, 0, none⟩) 1 1) (by simp [Act.eval, Act.put]) hro (v2 := (.slice none 0 0)) (by simp [Act.eval, Act.put]) hpA (by first | omega | (simp; omega) | (simp; done)) (by first | omega | (simp; omega) | (simp; done)) ?_; intro v6 w6 hown6 hgrow6 _))
          all_goals
            have h6 : Below WT.heap.size WT w6 := HBW.out.grown hgrow6 HBW.out.size fun k e => by cases e; exact Nat.le_refl _
            have hr6 := HR.out.below h6
            have hrest := rest_rowE hown6
            obtain ⟨A6, c6, rfl⟩ := row_form2 hown6
            simp only [List.drop_nil, List.length_nil, Nat.add_zero] at hrest
            have hw6 : w.heap.size ≤ w6.heap.size := Nat.le_trans hw0 h6.size
            have hal : Below w6.heap.size w6 (w6.alloc (.cells #[] 75)) := (Below.refl _ w6).alloc (Nat.le_refl _) _
            have hro7 : (w6.alloc (.cells #[] 75)).ownsRow w.heap.size 75 3 (.slice (some ⟨w6.heap.size, 0, none⟩) 0 0) 0 [] := World.ownsRow_lit w6 #[] 0 hw6 (by unfold maxLen; omega) rfl
            have hpT : PE (w6.alloc (.cells #[] 75)) (.slice none 0 0) (List.take 0 ([] : List Et)) := ⟨none, 0, rfl, fun h => absurd h (by simp)⟩
            obtain ⟨d4, d5⟩ := hr6.cells
            have hrl6 := hr6.ltb
            have hab6 : Below WT.heap.size WT (w6.alloc (.cells #[] 75)) := h6.trans (hal.mono h6.size)
            have H6 := Lib.hid h6
            have HAB6 := Lib.hid hab6
            have HREST := Lib.hid hrest
            have HAL := Lib.hid hal
            have hdl : (List.drop 0 ([] : List Et)).length ≤ 1000000 := by rw [List.length_drop]; omega
            have htl : (List.take 0 ([] : List Et)).length ≤ 1000000 := by rw [List.length_take]; omega
            clear h6 hr6 hrest hown6 hgrow6 hal hpA hro d0 d1 y0 y1 y2 hab6
            go_wp2_with (at_builtin; first | (refine wpList_append_pe rfl _ _ rfl (base := w.heap.size) Tryz.underlying28 hi hz0 hz1 hz2 (v := .slice (some ⟨w6.heap.size, 0, none⟩) 0 0) rfl hro7 (v2 := (.slice none 0 0)) rfl hpT (by omega) (by first | omega | (simp; omega) | (simp; done)) ?_; intro v7 w7 hown7 hgrow7 hat7) | (refine wpList_append_pe rfl _ _ rfl (base := w.heap.size) Tryz.underlying28 hi hz0 hz1 hz2 (v := v7) rfl hown7 (v2 := .slice A6 1 c6) rfl (HREST.out.below ((HAL.out.grown hgrow7 HAL.out.size fun k e => by cases e; exact Nat.le_refl _))) (by first | omega | (simp; omega) | (simp; done)) (by have := hgrow7.size; simp at this; omega) ?_; intro v8 w8 hown8 hgrow8 _; obtain ⟨A8, c8, rfl⟩ := row_form2 hown8; obtain ⟨z1, z2, ht8⟩ := rput_end2 HKQ.out HR.out hlo hlt0 HAB6.out H6.out.size hown7 hgrow7 hown8 hgrow8 hat7 HPN.out.symm; have HT8 := Lib.hid ht8; clear ht8))
            go_roundw
            case rel => exact ⟨q + 1, by omega, by go_num, by rw [HPUT.out]; first | exact HT8.out | exact (show 0 + (S.take P).length + ([x] ++ S.drop P).length = P + (S.length - P + 1) by rw [List.length_append, List.length_take, List.length_drop, List.length_singleton]; omega) ▸ HT8.out⟩
            case measure => simp [intOf] <;> omega
    · obtain rfl : n = q := by omega
      go_wp2_with fail
      go_end0
      refine ⟨rfl, v1, ?_, HKP.out, HAB.out⟩
      have := HRB.out
      rwa [List.take_of_length_le (by rw [HN.out]; exact Nat.le_refl _)] at this

set_option maxRecDepth 100000 in
set_option maxHeartbeats 4000000 in
theorem rDrop_any {lo : Nat} {w : World} {rb : Nat} {v : Value} {S : List Et} (h : RB lo w rb v S) (hs : Sd S) (hlo : lo ≤ w.heap.size) (hl : S.length ≤ 1000000) (k : ByteArray) (z : Int) :
    Calls Tryz.prog 15 #[.pointer (some ⟨rb, 0, none⟩), .string k, .int .i64 z] w fun e w' => e = .returned (.bool (fnd S k z).isSome) ∧ RTurn lo w rb v (dropS S k z) w' := by
  obtain ⟨i0, hi, hz0, hz1, hz2⟩ := info_parts info75
  have H := Lib.hid h
  have hat := rAt_any h hl k z
  obtain ⟨P, hP⟩ : ∃ P, posS S (k, z, 0) = P := ⟨_, rfl⟩
  cases ha : atB S (k, z, 0) with
  | true =>
    obtain ⟨hp, hsp⟩ := at_yes ha
    have hf := pos_yes hs hp hsp
    have hdo := drop_old hs hp hsp
    simp only at hf
    rw [ha, hP] at hat
    rw [hP] at hf hp hdo
    rw [hf]
    simp only [Option.isSome_some]
    have hlt0 := h.ltb
    have HDO := Lib.hid hdo
    obtain ⟨A, c, rfl, hfm, hcap, hbig⟩ := h.form
    obtain ⟨gg, rfl, _⟩ := hfm (by omega)
    unfold maxLen at hbig
    clear h hP hs ha hsp hf hdo hfm
    go_enter Tryz.func15, Tryz.ntmps15
    go_wp2_with fail
    refine hat.mono ?_
    rintro e w1 ⟨rfl, hb1⟩
    have hr := H.out.below hb1
    obtain ⟨c0, c1⟩ := hr.cells
    have HR := Lib.hid hr
    have hkp : Keep (RK rb (.slice (some ⟨gg, 0, none⟩) S.length c)) w w1 := (Keep.refl _ w).trans (q := fun _ => True) (Keep.of_below hb1) fun _ _ _ => trivial
    have HKP := Lib.hid hkp
    have hbw : Below w1.heap.size w1 (w1.alloc (.cells #[] 75)).drew := ((Below.refl _ w1).alloc (Nat.le_refl _) _).drew
    have hw0 : w.heap.size ≤ w1.heap.size := hb1.size
    have hro : (w1.alloc (.cells #[] 75)).drew.ownsRow w.heap.size 75 3 (.slice (some ⟨w1.heap.size, 0, none⟩) 0 0) 0 [] := (World.ownsRow_lit w1 #[] 0 hw0 (by unfold maxLen; omega) rfl).drew
    have hpT : PE (w1.alloc (.cells #[] 75)).drew (.slice (some ⟨gg, 0, none⟩) P c) (S.take P) := (hr.pe.below hbw).take (by omega)
    have hpD : PE w1 (.slice (if c = P + 1 then some ⟨gg, 0, none⟩ else some ⟨gg, (P + 1) * 3, none⟩) (S.length - (P + 1)) (c - (P + 1))) (S.drop (P + 1)) := by
      have h9 := pe_from hr.pe hp hcap
      rwa [show (⟨gg, 0, none⟩ : Addr).add ((P + 1) * 3) = ⟨gg, (P + 1) * 3, none⟩ by simp [Addr.add]] at h9
    have hpi : (P : Int) + 1 ≤ (S.length : Int) := by omega
    have hpc : (P : Int) + 1 ≤ (c : Int) := by omega
    have hpi0 : (P : Int) ≤ (S.length : Int) := by omega
    have hwr : IntKind.i64.wrap ((P : Int) + 1) = (P : Int) + 1 := wrap_small _ (by omega) (by omega)
    have htn : ((P : Int) + 1).toNat = P + 1 := by omega
    have hpn0 : (0 : Int) ≤ (P : Int) + 1 := by omega
    have hpc0 : (P : Int) ≤ (c : Int) := by omega
    have hgl := (hr.row.lt gg rfl).2
    have htl : (S.take P).length ≤ 1000000 := by rw [List.length_take]; omega
    have hdl : (S.drop (P + 1)).length ≤ 1000000 := by rw [List.length_drop]; omega
    have hrl := hr.ltb
    have HBW := Lib.hid hbw
    have HPD := Lib.hid hpD
    clear hat hr hb1 hkp hbw hpD
    go_upto_region 3 with (fail)
    go_region_law (first
      | (refine step_append_pe rfl (.tmp 18) (.tmp 24) rfl (base := w.heap.size) Tryz.underlying28 hi hz0 hz1 hz2 (v := .slice (some ⟨w1.heap.size, 0, none⟩) 0 0) (by simp [Act.eval, Act.put]) hro (v2 := .slice (some ⟨gg, 0, none⟩) P c) (by simp [Act.eval, Act.put]) hpT (by omega) (by first | omega | (simp; omega) | (simp; done)) ?_; intro v7 w7 hown7 hgrow7 hat7; have d0 := ((HR.out.below (HBW.out.grown hgrow7 HBW.out.size fun k e => by cases e; exact Nat.le_refl _)).cells).1)
      | (refine step_append_pe rfl (.tmp 25) (.tmp 32) rfl (base := w.heap.size) Tryz.underlying28 hi hz0 hz1 hz2 (v := v7) (by simp [Act.eval, Act.put]) hown7 (v2 := .slice (if c = P + 1 then some ⟨gg, 0, none⟩ else some ⟨gg, (P + 1) * 3, none⟩) (S.length - (P + 1)) (c - (P + 1))) (by simp [Act.eval, Act.put]) (HPD.out.below (HBW.out.grown hgrow7 HBW.out.size fun k e => by cases e; exact Nat.le_refl _)) (by omega) (by have := hgrow7.size; simp at this; omega) ?_; intro v8 w8 hown8 hgrow8 _; obtain ⟨A8, c8, rfl⟩ := row_form2 hown8; obtain ⟨z1, z2, ht8⟩ := rput_end2 HKP.out HR.out hlo hlt0 HBW.out (Nat.le_refl _) hown7 hgrow7 hown8 hgrow8 hat7 HDO.out.symm; have HT8 := Lib.hid ht8; clear ht8))
    all_goals go_wp2_with fail
    all_goals go_ret
    all_goals
      have h9 := HT8.out
      rw [show 0 + (S.take P).length + (S.drop (P + 1)).length = min P S.length + (S.length - (P + 1)) by rw [List.length_take, List.length_drop]; omega] at h9
      first
        | exact ⟨rfl, h9⟩
        | (have hc1 : c = P + 1 := by assumption
           rw [hc1] at h9
           exact ⟨rfl, h9⟩)
  | false =>
    have hf := pos_no (x := (k, z, 0)) hs (at_no ha)
    simp only at hf
    rw [ha, hP] at hat
    rw [hf, drop_none hf]
    simp only [Option.isSome_none]
    clear h hP hs ha hf
    go_enter Tryz.func15, Tryz.ntmps15
    go_wp2_with fail
    refine hat.mono ?_
    rintro e w1 ⟨rfl, hb1⟩
    have HB1 := Lib.hid hb1
    clear hat hb1
    go_wp2_with fail
    go_ret
    exact ⟨rfl, v, H.out.below HB1.out, (Keep.refl _ w).trans (q := fun _ => True) (Keep.of_below HB1.out) fun _ _ _ => trivial, fun g e => .inl e⟩
end Go.Proofs.YtfcdgfjpmcapkaaGreat
