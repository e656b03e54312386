/- Walk of Put, with what its bytes have room for. -/
import Derived.Test.YtpoefcpgcojppaaPO
namespace Go.Proofs.Ytpoefcpgcojppaa
open Go.ChangeShapes Go.WideShapes Go.ChangeAt Go.RowKit
set_option linter.unusedVariables false

/-- a slice within its room -/
def CapOk (v : Value) : Prop := ∀ A n c, v = .slice A n c → n ≤ c ∧ (A = none → c = 0)
theorem cap_nil : CapOk (.slice none 0 0) := by
  intro A n c e
  injection e with e1 e2 e3
  subst e1 e2 e3
  exact ⟨Nat.le_refl _, fun _ => rfl⟩
theorem cap_own {w : World} {base n sz : Nat} {t : TypeId} {v : Value} {xs : List Value} (h : w.ownsRow base t sz v n xs) : CapOk v := by
  rcases h.2 with ⟨rfl, rfl⟩ | ⟨g, cap, cur, rfl, _, _, h3, _⟩
  · exact cap_nil
  · intro A n c e
    injection e with e1 e2 e3
    subst e1 e2 e3
    exact ⟨h3, fun h => by cases h⟩
def PutsC (e : Ed) (w : World) (x : Ending) (w' : World) : Prop := ∃ v, x = .returned (.tuple #[v, .int .i64 (checkE e)]) ∧ BR w' v (putB e) ∧ CapOk v ∧ Below w.heap.size w w'

set_option maxHeartbeats 4000000 in
set_option maxRecDepth 100000 in
theorem put_cap {w : World} {pv : Value} {e : Ed} (h : PR w pv e.props) (hs : SzE e) : Calls Try.prog 14 #[e.v pv] w (PutsC e w) := by
  obtain ⟨i0, hi, hz0, hz1, hz2⟩ := info_parts5
  unfold PutsC
  have hck : ∀ W, Below w.heap.size w W → Calls Try.prog 16 #[e.v pv] W (CheckR e W) := fun W hW => check_any (h.below hW) hs
  unfold CheckR at hck
  have HCK := Lib.hid hck
  clear hck
  have H := Lib.hid h
  have HX0 := Lib.hid (Bx5.new w (.string e.src) (.string e.dst) (.string e.lab) (.int .i64 e.time) pv 24)
  have HW0 := Lib.hid ((Below.refl w.heap.size w).alloc (Nat.le_refl _) (.cells #[.string e.src, .string e.dst, .string e.lab, .int .i64 e.time, pv] 24))
  by_cases hc0 : checkE e = 0
  · have HC0 := Lib.hid hc0
    have HPB := Lib.hid (show putB e = putE e by unfold putB; rw [if_pos hc0])
    rw [hc0] at HCK ⊢
    unfold Ed.v at HCK ⊢
    clear hc0
    obtain ⟨A, c, rfl⟩ := h.form
    clear h hs
    obtain ⟨n, hN⟩ : ∃ n, e.props.length = n := ⟨_, rfl⟩
    have HN := Lib.hid hN
    have hn8 : n ≤ 8 := by rw [← hN]; exact (check_ok.1 HC0.out).1.2.2.2.1
    rw [hN] at H HX0 HW0 HCK ⊢
    clear hN
    go_enter Try.func14, Try.ntmps14
    go_wp2_with (go_at_call 16; refine (HCK.out _ HW0.out).mono ?_; clear HCK; rintro x w1 ⟨rfl, k1⟩; have HX1 := Lib.hid (HX0.out.below k1); have HW1 := Lib.hid (chn HW0.out k1); clear k1)
    have HLEN := Lib.hid (And.intro (headB_len HC0.out) (And.intro (propsB_len e.props (areP_mem (check_ok.1 HC0.out).1.2.2.2)) (putE_len HC0.out)))
    obtain ⟨B0, hB0⟩ : ∃ B, w.heap.size = B := ⟨_, rfl⟩
    have HB0 := Lib.hid hB0
    have hx1 := HX1.out
    rw [hB0] at hx1 ⊢
    obtain ⟨q0, q1, q2, q3, q4, qlt⟩ := hx1
    have HXX := Lib.hid (Bx5.mk q0 q1 q2 q3 q4 qlt)
    clear hB0 HX0 HX1
    have HTX := Lib.hid (show ([] ++ txts [e.src, e.dst, e.lab] : List UInt8).length ≤ 1000 by
      have := HLEN.out.1; rw [headB_eq, List.length_append] at this; omega)
    go_region_held3 (fun w' => w'.cell? ⟨B0, 0, none⟩ = some (.string e.src) ∧ w'.cell? ⟨B0, 1, none⟩ = some (.string e.dst) ∧ w'.cell? ⟨B0, 2, none⟩ = some (.string e.lab) ∧ w'.cell? ⟨B0, 3, none⟩ = some (.int .i64 e.time)) (first | exact ⟨q0, q1, q2, q3⟩ | exact ⟨z0, z1, z2, z3⟩ | (go_keep; done)) (first | (go_at_call 39; refine (putTexts_new3 (base := w1.heap.size) (l := []) rfl (World.ownsRow_nil w1 w1.heap.size 5 1) (Nat.le_refl _) (by have := HTX.out; omega)).mono ?_; rintro x w2 ⟨v2, rfl, p1, p2⟩; have HX2 := Lib.hid (Bx5.belowN HXX.out (p2.base (Nat.le_refl _) (fun g hg => by cases hg)) qlt); obtain ⟨z0, z1, z2, z3, z4, _⟩ := HX2.out; have HP2 := Lib.hid p2) | (go_at_call 38; refine (putNumber_any p1 HP2.out.gr.size (by have := HTX.out; omega)).mono ?_; rintro x w3 ⟨v3, rfl, r1, r2⟩; have HP3 := Lib.hid (HP2.out.trans r2); have HB3 := Lib.hid (HP3.out.base (Nat.le_refl _) (fun g hg => by cases hg)); have HX3 := Lib.hid (Bx5.belowN HXX.out HB3.out qlt); obtain ⟨y0, y1, y2, y3, y4, _⟩ := HX3.out))
    have HR1 := Lib.hid (show w3.ownsRow w1.heap.size 5 1 v3 (headB e).length (byC (headB e)) by rw [headB_eq]; exact r1)
    clear z0 z1 z2 z3 z4 q0 q1 q2 q3 q4 r1 r2 p1 y0 y1 y2 y3
    have hw8 := wrap_u8 (n : Int)
    obtain ⟨L0, hL0⟩ : ∃ L, headB e = L := ⟨_, rfl⟩
    have HL0 := Lib.hid hL0
    have hr3 := HR1.out
    rw [hL0] at hr3
    have hl0 : L0.length ≤ 69 := by rw [← hL0]; exact HLEN.out.1
    have hs3 : w1.heap.size ≤ w3.heap.size := HB3.out.size
    clear hL0
    go_wp2_with (at_builtin; refine wpList_append_own_at _ rfl _ _ 34 rfl w1.heap.size 5 i0 (.int .u8 0) 1 1 Try.underlying34 hi hz0 hz1 hz2 rfl (by decide) _ L0.length (byC L0) rfl (hr3.alloc _) ⟨w3.heap.size, 0, none⟩ 1 1 [.int .u8 ((oct (n : Int)).toNat : Int)] rfl rfl (cell_one_new _ _ _) (by simp [Value.oneCell']) (by unfold maxLen; omega) (by omega) (by rw [World.size_alloc]; omega) ?_; intro v4 w4 r1 r2 r3 r4; have HG4 := Lib.hid ((Grw.alloc v3 (.cells #[.int .u8 ((oct (n : Int)).toNat : Int)] 5)).trans (Grw.of_at r2 r4)); have HB4 := Lib.hid (HB3.out.trans (HG4.out.base hs3 (own_base hr3))); have HX4 := Lib.hid (Bx5.belowN HXX.out HB4.out qlt); obtain ⟨y0, y1, y2, y3, y4, _⟩ := HX4.out; have HR4 := Lib.hid (show w4.ownsRow w1.heap.size 5 1 v4 (L0 ++ [oct (n : Int)]).length (byC (L0 ++ [oct (n : Int)])) by rw [byC_app, List.length_append]; exact r1); clear r1 r2 r3 r4 hr3)
    clear y0 y1 y2 y3 y4 hl0 hs3 hw8
    have HPW := Lib.hid (H.out.below (HW1.out))
    go_loopw [5, 34] (fun b i wr => ∃ k : Nat, k ≤ n ∧ i = .int .i64 k ∧ wr.ownsRow w1.heap.size 5 1 b (L0 ++ [oct (n : Int)] ++ propsB (e.props.take k)).length (byC (L0 ++ [oct (n : Int)] ++ propsB (e.props.take k))) ∧ Below w1.heap.size w1 wr) (fun _ i _ => n - (Lib.intOf i).toNat)
    case atStart => exact ⟨0, Nat.zero_le _, rfl, by simpa [propsB] using HR4.out, HB4.out⟩
    case round =>
      obtain ⟨k, hk, rfl, hr, hb⟩ := hrel
      have HB := Lib.hid hb
      have hsz : w1.heap.size ≤ wr.heap.size := hb.size
      clear hb
      by_cases hlt : k < n
      · have e1 : k < e.props.length := by rw [HN.out]; exact hlt
        obtain ⟨ad, f1, hab, x0, x1, x2, x3⟩ := PR.at4 (HPW.out.below HB.out) e1
        subst f1
        have hpp := areP_mem (check_ok.1 HC0.out).1.2.2.2 _ (List.getElem_mem e1)
        obtain ⟨p, hp⟩ : ∃ p, e.props[k] = p := ⟨_, rfl⟩
        rw [hp] at x0 x1 x2 x3 hpp
        have HT : Hid (propsB (e.props.take (k + 1)) = propsB (e.props.take k) ++ propB p) := by
          show _ = _
          rw [List.take_succ_eq_append_getElem e1, hp, propsB_snoc]
        obtain ⟨L, hL⟩ : ∃ L, L0 ++ [oct (n : Int)] ++ propsB (e.props.take k) = L := ⟨_, rfl⟩
        have HL := Lib.hid hL
        have hLl : L.length ≤ 900 := by
          have h1 := propsB_len (e.props.take k) (fun q hq => areP_mem (check_ok.1 HC0.out).1.2.2.2 q (List.mem_of_mem_take hq))
          have h2 := HLEN.out.1
          rw [HL0.out] at h2
          rw [List.length_take] at h1
          rw [← hL]
          simp only [List.length_append, List.length_singleton]
          omega
        rw [hL] at hr
        have HR := Lib.hid hr
        obtain ⟨key, kd, nm, tx⟩ := p
        simp only at x0 x1 x2 x3
        have HPP := Lib.hid hpp
        have HTT := Lib.hid (show (L ++ txts [key]).length ≤ 950 by
          have := verB_size (freB_ver HPP.out.1); have := txt_len key; simp [txts]; simp only at *; omega)
        have HTE := Lib.hid (show txts [key] = txt key by simp [txts])
        clear hp hL hpp hr
        go_upto_region 9 with (fail)
        have hnew := heap_alloc_new wr (.cells #[.string key, .int .i64 kd, .int .i64 nm, .string tx] 53)
        have d0 := cell_of_row _ _ 0 _ 53 (0, 0) hnew
        have d1 := cell_of_row _ _ 1 _ 53 (0, 0) hnew
        have d2 := cell_of_row _ _ 2 _ 53 (0, 0) hnew
        have d3 := cell_of_row _ _ 3 _ 53 (0, 0) hnew
        have HRA := Lib.hid (HR.out.alloc (.cells #[.string key, .int .i64 kd, .int .i64 nm, .string tx] 53))
        have HGA := Lib.hid (Grw.alloc (w := wr) u5 (.cells #[.string key, .int .i64 kd, .int .i64 nm, .string tx] 53))
        have HNE := Lib.hid (own_ne HR.out (Nat.le_refl wr.heap.size))
        have hsz2 : wr.heap.size < (wr.alloc (.cells #[.string key, .int .i64 kd, .int .i64 nm, .string tx] 53)).heap.size := by simp
        clear hnew x0 x1 x2 x3
        generalize wr.alloc (.cells #[.string key, .int .i64 kd, .int .i64 nm, .string tx] 53) = wa at *
        obtain ⟨B1, hB1⟩ : ∃ B, wr.heap.size = B := ⟨_, rfl⟩
        have HB1 := Lib.hid hB1
        rw [hB1] at d0 d1 d2 d3 hsz2 HNE ⊢
        clear hB1
        go_region_held3 (fun w' => w'.cell? ⟨B1, 0, none⟩ = some (.string key) ∧ w'.cell? ⟨B1, 1, none⟩ = some (.int .i64 kd) ∧ w'.cell? ⟨B1, 2, none⟩ = some (.int .i64 nm) ∧ w'.cell? ⟨B1, 3, none⟩ = some (.string tx)) (first | exact ⟨d0, d1, d2, d3⟩ | exact ⟨z0, z1, z2, z3⟩ | exact ⟨y0, y1, y2, y3⟩ | (go_keep; done)) (first | (go_at_call 39; refine (putTexts_new1 rfl HRA.out (by have := HB1.out; omega) (by have := HTT.out; omega)).mono ?_; rintro x w5 ⟨v5, rfl, p1, p2⟩; have z0 := (p2.cell (a := ⟨B1, 0, none⟩) hsz2 HNE.out).trans d0; have z1 := (p2.cell (a := ⟨B1, 1, none⟩) hsz2 HNE.out).trans d1; have z2 := (p2.cell (a := ⟨B1, 2, none⟩) hsz2 HNE.out).trans d2; have z3 := (p2.cell (a := ⟨B1, 3, none⟩) hsz2 HNE.out).trans d3; have HP5 := Lib.hid p2) | (go_at_call 40; refine (putValue_any (x := (kd, nm, tx)) HPP.out.2 p1 (by have := HP5.out.gr.size; have := HB1.out; omega) (by have := HTT.out; omega)).mono ?_; rintro x w6 ⟨v6, rfl, r1, r2⟩; have HP6 := Lib.hid (HP5.out.trans r2); have y0 := (HP6.out.cell (a := ⟨B1, 0, none⟩) hsz2 HNE.out).trans d0; have y1 := (HP6.out.cell (a := ⟨B1, 1, none⟩) hsz2 HNE.out).trans d1; have y2 := (HP6.out.cell (a := ⟨B1, 2, none⟩) hsz2 HNE.out).trans d2; have y3 := (HP6.out.cell (a := ⟨B1, 3, none⟩) hsz2 HNE.out).trans d3))
        have HF := Lib.hid (show w6.ownsRow w1.heap.size 5 1 v6 (L0 ++ [oct (n : Int)] ++ propsB (e.props.take (k + 1))).length (byC (L0 ++ [oct (n : Int)] ++ propsB (e.props.take (k + 1)))) by
          have e2 : L0 ++ [oct (n : Int)] ++ propsB (e.props.take (k + 1)) = L ++ txts [key] ++ valB (kd, nm, tx) := by
            rw [HT.out, ← List.append_assoc, HL.out, HTE.out]
            simp [propB]
          rw [e2]
          exact r1)
        have HBF := Lib.hid (HB.out.trans ((HGA.out.trans HP6.out).base hsz (own_base HR.out)))
        go_wp2_with fail
        go_roundw
        case rel => exact ⟨k + 1, by omega, by go_num, HF.out, HBF.out⟩
        case measure => simp [Lib.intOf]; omega
      · obtain rfl : k = n := by omega
        rw [List.take_of_length_le (by rw [HN.out]; exact Nat.le_refl _)] at hr
        have HE := Lib.hid (show L0 ++ [oct (k : Int)] ++ propsB e.props = putB e by rw [HPB.out]; unfold putE; rw [HL0.out, HN.out])
        rw [HE.out] at hr
        have HR := Lib.hid (BR.of_own hr)
        have HCAP := Lib.hid (cap_own hr)
        clear hr
        go_wp2_with fail
        exact bodyPost_ret (v := .tuple #[u5, .int .i64 0]) (by simp [results, Try.results14, go_sem]) rfl ⟨_, rfl, HR.out, HCAP.out, HW1.out.trans (HB.out.mono HW1.out.size)⟩
  · have HE := Lib.hid (show putB e = [] by unfold putB; rw [if_neg hc0])
    obtain ⟨cc, hcc⟩ : ∃ c, checkE e = c := ⟨_, rfl⟩
    rw [hcc] at HCK hc0 ⊢
    rw [HE.out]
    have hb : (cc != 0) = true := by simpa using hc0
    unfold Ed.v at HCK ⊢
    clear hc0 hcc hs
    go_enter Try.func14, Try.ntmps14
    go_wp2_with (go_at_call 16; refine (HCK.out _ HW0.out).mono ?_; clear HCK; rintro x w1 ⟨rfl, k1⟩)
    exact bodyPost_ret (v := .tuple #[.slice none 0 0, .int .i64 cc]) (by simp [results, Try.results14, go_sem]) rfl ⟨_, rfl, BR.nil _ _ _, cap_nil, chn HW0.out k1⟩
end Go.Proofs.Ytpoefcpgcojppaa
