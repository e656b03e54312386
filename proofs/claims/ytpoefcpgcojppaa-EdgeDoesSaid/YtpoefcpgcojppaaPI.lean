/- Walk of the document's Put. -/
import Derived.Test.YtpoefcpgcojppaaPH
import Derived.Test.YtpoefcpgcojppaaPD
namespace Go.Proofs.Ytpoefcpgcojppaa
open Go.ChangeShapes Go.WideShapes Go.ChangeAt Go.RowKit
set_option linter.unusedVariables false

theorem own_below {w w' : World} {base n sz : Nat} {t : TypeId} {v : Value} {xs : List Value} (h : w.ownsRow base t sz v n xs) (hb : Below w.heap.size w w') : w'.ownsRow base t sz v n xs := by
  refine ⟨h.1, ?_⟩
  rcases h.2 with hn | ⟨g, cap, cur, hv, hg, hh, rest⟩
  · exact .inl hn
  · exact .inr ⟨g, cap, cur, hv, hg, (hb.block g (Array.getElem?_eq_some_iff.1 hh).1).trans hh, rest⟩
theorem own_lower {w : World} {base base' n sz : Nat} {t : TypeId} {v : Value} {xs : List Value} (h : w.ownsRow base t sz v n xs) (hb : base' ≤ base) : w.ownsRow base' t sz v n xs := by
  refine ⟨h.1, ?_⟩
  rcases h.2 with hn | ⟨g, cap, cur, hv, hg, rest⟩
  · exact .inl hn
  · exact .inr ⟨g, cap, cur, hv, Nat.le_trans hb hg, rest⟩
/-- a row of bytes, that is at the same time its own -/
theorem own_grown {w w' : World} {N base n sz : Nat} {t : TypeId} {v : Value} {xs : List Value} {W : World} (hb : Below N W w) (h : w.ownsRow base t sz v n xs) (hN : N ≤ base) (hNw : N ≤ w.heap.size) (hg : w.grownBy w' v.ownBlock) : Below N W w' :=
  hb.grown hg hNw (fun j hj => Nat.le_trans hN (own_base h j hj))

theorem Grw.of_below {w w' : World} (v : Value) (h : Below w.heap.size w w') : Grw w v w' v := ⟨⟨h.os, h.tape, h.output, h.size, fun k hk _ => h.block k hk⟩, .inl rfl⟩
theorem own_app {w : World} {base : Nat} {t : TypeId} {v : Value} {L l : List UInt8} (h : w.ownsRow base t 1 v (L.length + l.length) (byC L ++ byC l)) : w.ownsRow base t 1 v (L ++ l).length (byC (L ++ l)) := by
  rw [byC_app, List.length_append]
  exact h
theorem own_snoc {w : World} {base : Nat} {t : TypeId} {v : Value} {L : List UInt8} {x c : Int} (hc : c = ((oct x).toNat : Int)) (h : w.ownsRow base t 1 v (L.length + 1) (byC L ++ [.int .u8 c])) : w.ownsRow base t 1 v (L ++ [oct x]).length (byC (L ++ [oct x])) := by
  subst hc
  exact own_app (l := [oct x]) h
theorem txts_one (s : ByteArray) : txts [s] = txt s := by simp [txts]

set_option maxHeartbeats 4000000 in
set_option maxRecDepth 100000 in
theorem rPut_any {w : World} {pv : Value} {e : Ed} (h : PR w pv e.props) (hs : SzE e) : Calls Try.prog 15 #[e.v pv] w (PutsR e w) := by
  obtain ⟨i0, hi, hz0, hz1, hz2⟩ := info_parts5
  unfold PutsR
  have hck : ∀ W, Below w.heap.size w W → Calls Try.prog 17 #[e.v pv] W (RCheckR e W) := fun W hW => rCheck_any (h.below hW) hs
  unfold RCheckR at hck
  have HCK := Lib.hid hck
  clear hck
  have H := Lib.hid h
  have HX0 := Lib.hid (Bx5.new w (.string e.src) (.string e.dst) (.string e.lab) (.int .i64 e.time) pv 24)
  have HW0 := Lib.hid ((Below.refl w.heap.size w).alloc (Nat.le_refl _) (.cells #[.string e.src, .string e.dst, .string e.lab, .int .i64 e.time, pv] 24))
  by_cases hc0 : checkE e = 0
  · have HC0 := Lib.hid hc0
    have HPB := Lib.hid (show putB e = putE e by unfold putB; rw [if_pos hc0])
    rw [hc0] at HCK ⊢
    unfold Ed.v at HCK ⊢
    clear hc0
    obtain ⟨A, c, rfl⟩ := h.form
    clear h hs
    obtain ⟨n, hN⟩ : ∃ n, e.props.length = n := ⟨_, rfl⟩
    have HN := Lib.hid hN
    have hn8 : n ≤ 8 := by rw [← hN]; exact (check_ok.1 HC0.out).1.2.2.2.1
    rw [hN] at H HX0 HW0 HCK ⊢
    clear hN
    go_enter Try.func15, Try.ntmps15
    go_wp2_with (go_at_call 17; refine (HCK.out _ HW0.out).mono ?_; clear HCK; rintro x w1 ⟨rfl, k1⟩; have HX1 := Lib.hid (HX0.out.below k1.below); have HW1 := Lib.hid (chn HW0.out k1.below); clear k1)
    have HLEN := Lib.hid (And.intro (headB_len HC0.out) (And.intro (propsB_len e.props (areP_mem (check_ok.1 HC0.out).1.2.2.2)) (putE_len HC0.out)))
    have HV := Lib.hid (show e.src.size ≤ 20 ∧ e.dst.size ≤ 20 ∧ e.lab.size ≤ 20 from ⟨verB_size (check_ok.1 HC0.out).1.1, verB_size (check_ok.1 HC0.out).1.2.1, verB_size (freB_ver (check_ok.1 HC0.out).1.2.2.1)⟩)
    obtain ⟨B0, hB0⟩ : ∃ B, w.heap.size = B := ⟨_, rfl⟩
    have HB0 := Lib.hid hB0
    have hx1 := HX1.out
    rw [hB0] at hx1 ⊢
    obtain ⟨q0, q1, q2, q3, q4, qlt⟩ := hx1
    have HXX := Lib.hid (Bx5.mk q0 q1 q2 q3 q4 qlt)
    clear hB0 HX0 HX1
    have F1 := Lib.hid (fun W => rText_any e.src W (by have := HV.out.1; omega))
    have F2 := Lib.hid (fun W => rText_any e.dst W (by have := HV.out.2.1; omega))
    have F3 := Lib.hid (fun W => rText_any e.lab W (by have := HV.out.2.2; omega))
    have HL3 := Lib.hid (show (txt e.src).length ≤ 21 ∧ (txt e.dst).length ≤ 21 ∧ (txt e.lab).length ≤ 21 by rw [txt_len, txt_len, txt_len]; have := HV.out; omega)
    go_region_held3 (fun w' => w'.cell? ⟨B0, 0, none⟩ = some (.string e.src) ∧ w'.cell? ⟨B0, 1, none⟩ = some (.string e.dst) ∧ w'.cell? ⟨B0, 2, none⟩ = some (.string e.lab)) (first | exact ⟨q0, q1, q2⟩ | exact ⟨y0, y1, y2⟩ | exact ⟨z0, z1, z2⟩ | exact ⟨u0, u1, u2⟩ | exact ⟨x0, x1, x2⟩ | exact ⟨r0, r1, r2⟩ | (go_keep; done)) (first
      | (go_at_call 41; first
        | (refine (F1.out _).mono ?_; clear F1; rintro x wA ⟨vA, rfl, a1, a2⟩; have hlA : w1.heap.size ≤ wA.heap.size := a2.size; have HBA := Lib.hid (((Below.refl w1.heap.size w1).drew).trans a2); have HA := Lib.hid (show wA.ownsRow w1.heap.size 5 1 vA (txt e.src).length (byC (txt e.src)) from a1); clear a1 a2; obtain ⟨y0, y1, y2, y3, y4, _⟩ := Bx5.belowN HXX.out HBA.out qlt)
        | (refine (F2.out _).mono ?_; clear F2; rintro x wB ⟨vB, rfl, b1, b2⟩; have HBB := Lib.hid (HBA.out.trans (b2.mono hlA)); have hlB : w1.heap.size ≤ wB.heap.size := HBB.out.size; have HAB := Lib.hid (own_below HA.out b2); have HVB := Lib.hid (BR.of_own b1); clear b1 b2; obtain ⟨z0, z1, z2, z3, z4, _⟩ := Bx5.belowN HXX.out HBB.out qlt)
        | (refine (F3.out _).mono ?_; clear F3; rintro x wD ⟨vD, rfl, d1, d2⟩; have HBD := Lib.hid (HBC.out.trans (d2.mono hlC)); have hlD : w1.heap.size ≤ wD.heap.size := HBD.out.size; have HCD := Lib.hid (own_below HC.out d2); have HVD := Lib.hid (BR.of_own d1); clear d1 d2; obtain ⟨x0, x1, x2, x3, x4, _⟩ := Bx5.belowN HXX.out HBD.out qlt))
      | (refine step_append_br rfl (.tmp 15) (.tmp 18) rfl (base := w1.heap.size) Try.underlying34 hi hz0 hz1 hz2 (v := vA) (by simp [Act.eval, Act.put]) HAB.out (v2 := vB) (by simp [Act.eval, Act.put]) HVB.out (by have := HL3.out; omega) hlB ?_; intro vC wC e1 e2 e3; have HBC := Lib.hid (own_grown HBB.out HAB.out (Nat.le_refl _) hlB e2); have hlC : w1.heap.size ≤ wC.heap.size := HBC.out.size; have HC := Lib.hid e1; clear e1 e2 e3; obtain ⟨u0, u1, u2, u3, u4, _⟩ := Bx5.belowN HXX.out HBC.out qlt)
      | (refine step_append_br rfl (.tmp 19) (.tmp 22) rfl (base := w1.heap.size) Try.underlying34 hi hz0 hz1 hz2 (v := vC) (by simp [Act.eval, Act.put]) HCD.out (v2 := vD) (by simp [Act.eval, Act.put]) HVD.out (by have := HL3.out; omega) hlD ?_; intro vE wE e1 e2 e3; have HBE := Lib.hid (own_grown HBD.out HCD.out (Nat.le_refl _) hlD e2); have hlE : w1.heap.size ≤ wE.heap.size := HBE.out.size; have HE := Lib.hid e1; clear e1 e2 e3; obtain ⟨r0, r1, r2, r3, r4, _⟩ := Bx5.belowN HXX.out HBE.out qlt))
    clear y0 y1 y2 y3 y4 z0 z1 z2 z3 z4 u0 u1 u2 u3 u4 x0 x1 x2 x3 x4 q0 q1 q2 q3 q4 hlA hlB hlC hlD HA HAB HC HCD HVB HVD HBA HBB HBC HBD
    have HE2 := Lib.hid (show wE.ownsRow w1.heap.size 5 1 vE (txts [e.src, e.dst, e.lab]).length (byC (txts [e.src, e.dst, e.lab])) by
      have h1 : txts [e.src, e.dst, e.lab] = txt e.src ++ txt e.dst ++ txt e.lab := by simp [txts]
      rw [h1, byC_app, byC_app, List.length_append, List.length_append]
      exact HE.out)
    have hw8 := wrap_u8 (n : Int)
    have HTL := Lib.hid (show (txts [e.src, e.dst, e.lab]).length ≤ 63 ∧ (headB e).length ≤ 69 ∧ byC (txts [e.src, e.dst, e.lab]) ++ byC (num6 e.time) = byC (headB e) ∧ (txts [e.src, e.dst, e.lab]).length + (num6 e.time).length = (headB e).length by
      have h2 : headB e = txts [e.src, e.dst, e.lab] ++ num6 e.time := by simp [headB, txts]
      have h3 := HLEN.out.1
      rw [h2, ← byC_app]
      rw [h2] at h3
      rw [List.length_append, num6_len] at h3 ⊢
      exact ⟨by omega, h3, rfl, rfl⟩)
    clear HE r0 r1 r2
    go_wp2_with (first
      | (go_at_call 42; refine (rNumber_any e.time _).mono ?_; rintro x w2 ⟨v2, rfl, a1, a2⟩; have HB2 := Lib.hid (HBE.out.trans (a2.mono hlE)); have hl2 : w1.heap.size ≤ w2.heap.size := HB2.out.size; have H2 := Lib.hid (own_below HE2.out a2); have HV2 := Lib.hid (BR.of_own a1); clear a1 a2)
      | (at_builtin; first
        | (refine wpList_append_br rfl _ _ rfl Try.underlying34 hi hz0 hz1 hz2 rfl H2.out rfl HV2.out (by rw [num6_len]; have := HTL.out.1; omega) hl2 ?_; intro v3 w3 e1 e2 e3; have HB3 := Lib.hid (own_grown HB2.out H2.out (Nat.le_refl _) hl2 e2); have hl3 : w1.heap.size ≤ w3.heap.size := HB3.out.size; have H3 := Lib.hid (show w3.ownsRow w1.heap.size 5 1 v3 (headB e).length (byC (headB e)) by rw [← HTL.out.2.2.1, ← HTL.out.2.2.2]; exact e1); clear e1 e2 e3 H2; obtain ⟨t0, t1, t2, t3, t4, _⟩ := Bx5.belowN HXX.out HB3.out qlt)
        | (refine wpList_append_own_at _ rfl _ _ 34 rfl w1.heap.size 5 i0 (.int .u8 0) 1 1 Try.underlying34 hi hz0 hz1 hz2 rfl (by decide) _ (headB e).length (byC (headB e)) rfl (H3.out.alloc _) ⟨w3.heap.size, 0, none⟩ 1 1 [.int .u8 ((oct (n : Int)).toNat : Int)] rfl rfl (cell_one_new _ _ _) (by simp [Value.oneCell']) (by have := HTL.out.2.1; unfold maxLen; omega) (by have := HTL.out.2.1; omega) (by rw [World.size_alloc]; omega) ?_; intro v4 w4 e1 e2 e3 e4; have HB4 := Lib.hid (own_grown (HB3.out.alloc hl3 (.cells #[.int .u8 ((oct (n : Int)).toNat : Int)] 5)) (H3.out.alloc _) (Nat.le_refl _) (by rw [World.size_alloc]; omega) e2); have H4 := Lib.hid (show w4.ownsRow w1.heap.size 5 1 v4 (headB e ++ [oct (n : Int)]).length (byC (headB e ++ [oct (n : Int)])) by rw [byC_app, List.length_append]; exact e1); clear e1 e2 e3 e4)))
    obtain ⟨R0, hR0⟩ : ∃ R, headB e ++ [oct (n : Int)] = R := ⟨_, rfl⟩
    have HR0 := Lib.hid hR0
    have HR0l := Lib.hid (show R0.length ≤ 70 by rw [← hR0]; have := HTL.out.2.1; simp; omega)
    rw [hR0] at H4
    have HPW := Lib.hid (H.out.below (HW1.out))
    clear hR0 t0 t1 t2 t3 t4 hl2 hl3 hlE
    go_loopw [5, 6] (fun b i wr => ∃ k : Nat, k ≤ n ∧ i = .int .i64 k ∧ wr.ownsRow w1.heap.size 5 1 b (R0 ++ propsB (e.props.take k)).length (byC (R0 ++ propsB (e.props.take k))) ∧ Below w1.heap.size w1 wr) (fun _ i _ => n - (Lib.intOf i).toNat)
    case atStart => exact ⟨0, Nat.zero_le _, rfl, by simpa [propsB] using H4.out, HB4.out⟩
    case round =>
      obtain ⟨k, hk, rfl, hr, hb⟩ := hrel
      have HB := Lib.hid hb
      have hsz : w1.heap.size ≤ wr.heap.size := hb.size
      obtain ⟨_, _, _, _, c4, _⟩ := Bx5.belowN HXX.out hb qlt
      clear hb
      by_cases hlt : k < n
      · have e1 : k < e.props.length := by rw [HN.out]; exact hlt
        obtain ⟨ad, f1, hab, x0, x1, x2, x3⟩ := PR.at4 (HPW.out.below HB.out) e1
        subst f1
        have hpp := areP_mem (check_ok.1 HC0.out).1.2.2.2 _ (List.getElem_mem e1)
        obtain ⟨p, hp⟩ : ∃ p, e.props[k] = p := ⟨_, rfl⟩
        rw [hp] at x0 x1 x2 x3 hpp
        have HT : Hid (propsB (e.props.take (k + 1)) = propsB (e.props.take k) ++ propB p) := by
          show _ = _
          rw [List.take_succ_eq_append_getElem e1, hp, propsB_snoc]
        obtain ⟨L, hL⟩ : ∃ L, R0 ++ propsB (e.props.take k) = L := ⟨_, rfl⟩
        have HL := Lib.hid hL
        have hLl : L.length ≤ 900 := by
          have h1 := propsB_len (e.props.take k) (fun q hq => areP_mem (check_ok.1 HC0.out).1.2.2.2 q (List.mem_of_mem_take hq))
          have h2 := HR0l.out
          rw [List.length_take] at h1
          rw [← hL]
          simp only [List.length_append]
          omega
        rw [hL] at hr
        have HR := Lib.hid hr
        obtain ⟨key, vv⟩ := p
        simp only at x0 x1 x2 x3 hpp
        have HPP := Lib.hid hpp
        have HKS := Lib.hid (show (txt key).length ≤ 21 ∧ key.size ≤ 20 by have := verB_size (freB_ver HPP.out.1); rw [txt_len]; omega)
        have FK := Lib.hid (fun W => rText_any key W (by have := HKS.out.2; omega))
        have hwf : ∀ W : World, Grw wr u5 W u5 → Below w1.heap.size w1 W := fun W hW => HB.out.trans (hW.base hsz (own_base HR.out))
        have HWF := Lib.hid hwf
        have HFIN : ∀ (W : World) (v' : Value) (l : List UInt8), l = propB (key, vv) → W.ownsRow w1.heap.size 5 1 v' (L ++ l).length (byC (L ++ l)) → Hid (W.ownsRow w1.heap.size 5 1 v' (R0 ++ propsB (e.props.take (k + 1))).length (byC (R0 ++ propsB (e.props.take (k + 1))))) := fun W v' l hl hW => by
          show W.ownsRow _ _ _ _ _ _
          rw [HT.out, ← List.append_assoc, HL.out, ← hl]
          exact hW
        have HBF : ∀ (W : World) (v' : Value), Grw wr u5 W v' → Hid (Below w1.heap.size w1 W) := fun W v' hW => HB.out.trans (hW.base hsz (own_base HR.out))
        clear hp hL hpp hr hwf
        go_upto_region 11 with (fail)
        have hnew := Bx3.new wr (.int .i64 vv.1) (.int .i64 vv.2.1) (.string vv.2.2) 31
        have HGA := Lib.hid (Grw.alloc (w := wr) u5 (.cells #[.int .i64 vv.1, .int .i64 vv.2.1, .string vv.2.2] 31))
        have HRA := Lib.hid (HR.out.alloc (.cells #[.int .i64 vv.1, .int .i64 vv.2.1, .string vv.2.2] 31))
        have hba : Below wr.heap.size wr (wr.alloc (.cells #[.int .i64 vv.1, .int .i64 vv.2.1, .string vv.2.2] 31)) := (Below.refl _ wr).alloc (Nat.le_refl _) _
        have c4' := (hba.cell (p := ⟨B0, 4, none⟩) (by have := HB.out.size; omega)).trans c4
        have x0' := (hba.cell (p := ad.add (k * 4)) (by rw [block_add]; exact hab)).trans x0
        have HNE := Lib.hid (own_ne HR.out (Nat.le_refl wr.heap.size))
        clear x0 x1 x2 x3 hba c4
        generalize wr.alloc (.cells #[.int .i64 vv.1, .int .i64 vv.2.1, .string vv.2.2] 31) = wa at *
        obtain ⟨B1, hB1⟩ : ∃ B, wr.heap.size = B := ⟨_, rfl⟩
        rw [hB1] at hnew HNE ⊢
        have HB1 := Lib.hid hB1
        have HX3 := Lib.hid hnew
        have hlt1 := hnew.lt
        have hsa : w1.heap.size ≤ wa.heap.size := by omega
        clear hB1 hnew
        rcases right_cases HPP.out.2 with ⟨nn, hvv, n1, n2⟩ | ⟨tx, hvv, hT⟩
        all_goals have HVV := Lib.hid hvv
        all_goals clear hvv
        · rw [HVV.out] at HX3
          simp only at HX3
          have hwn : IntKind.i64.wrap (nn + 1099511627776) = nn + 1099511627776 := by rw [IntKind.wrap_i64]; omega
          have FN := Lib.hid (fun W => rNumber_any (nn + 1099511627776) W)
          have HEN := Lib.hid (show (num6 (nn + 1099511627776)).length ≤ 60 by rw [num6_len]; omega)
          go_wp2_with (first
            | (go_at_call 41; first
              | (refine (FK.out _).mono ?_; clear FK; rintro x wA ⟨vA, rfl, a1, a2⟩; have HGB := Lib.hid (Grw.of_below u5 a2); have HRB := Lib.hid (own_below HRA.out a2); have HVA := Lib.hid (BR.of_own a1); have hsb : w1.heap.size ≤ wA.heap.size := Nat.le_trans hsa a2.size; clear a1 a2)
              | (refine (FT.out _).mono ?_; clear FT; rintro x wD ⟨vD, rfl, a1, a2⟩; have HGE := Lib.hid (HGD.out.trans (Grw.of_below vC a2)); have HRE := Lib.hid (own_below HRD.out a2); have HVE := Lib.hid (BR.of_own a1); have hsd : w1.heap.size ≤ wD.heap.size := Nat.le_trans hsc a2.size; clear a1 a2))
            | (go_at_call 42; refine (FN.out _).mono ?_; clear FN; rintro x wD ⟨vD, rfl, a1, a2⟩; have HGE := Lib.hid (HGD.out.trans (Grw.of_below vC a2)); have HRE := Lib.hid (own_below HRD.out a2); have HVE := Lib.hid (BR.of_own a1); have hsd : w1.heap.size ≤ wD.heap.size := Nat.le_trans hsc a2.size; clear a1 a2)
            | (at_builtin; first
              | (refine wpList_append_br rfl _ _ rfl Try.underlying34 hi hz0 hz1 hz2 rfl HRB.out rfl HVA.out (by have := HKS.out.1; omega) hsb ?_; intro vB wB e1 e2 e3; have HGC := Lib.hid (HGB.out.trans (Grw.of_at e2 e3)); have HRC := Lib.hid (own_app e1); have hsb2 : w1.heap.size ≤ wB.heap.size := Nat.le_trans hsb e2.size; clear e1 e2 e3 HRB; obtain ⟨g0, g1, g2, _⟩ := HX3.out.grw HGC.out HNE.out)
              | (refine wpList_append_own_at _ rfl _ _ 34 rfl w1.heap.size 5 i0 (.int .u8 0) 1 1 Try.underlying34 hi hz0 hz1 hz2 rfl (by decide) _ (L ++ txt key).length (byC (L ++ txt key)) rfl (HRC.out.alloc _) ⟨wB.heap.size, 0, none⟩ 1 1 [.int .u8 1] rfl rfl (cell_one_new _ _ _) (by simp [Value.oneCell']) (by have := HKS.out.1; rw [List.length_append]; unfold maxLen; omega) (by have := HKS.out.1; rw [List.length_append]; omega) (by rw [World.size_alloc]; omega) ?_; intro vC wC e1 e2 e3 e4; have HGD := Lib.hid ((HGC.out.trans (Grw.alloc vB (.cells #[.int .u8 1] 5))).trans (Grw.of_at e2 e4)); have HRD := Lib.hid (own_snoc (x := 1) (by rfl) e1); have hsc : w1.heap.size ≤ wC.heap.size := Nat.le_trans hsb2 (Nat.le_trans (by rw [World.size_alloc]; omega) e2.size); clear e1 e2 e3 e4 HRC g0 g1 g2; obtain ⟨g0, g1, g2, _⟩ := HX3.out.grw HGD.out HNE.out)
              | (refine wpList_append_br rfl _ _ rfl Try.underlying34 hi hz0 hz1 hz2 rfl HRE.out rfl HVE.out (by rw [List.length_append, List.length_append]; have := HKS.out.1; have := HEN.out; simp only [List.length_singleton]; omega) hsd ?_; intro vF wF e1 e2 e3; have HGF := Lib.hid (HGE.out.trans (Grw.of_at e2 e3)); have HRF := Lib.hid (own_app e1); clear e1 e2 e3)))
          have HF := HFIN wF vF (txt key ++ ([oct 1] ++ num6 (nn + 1099511627776))) (by rw [HVV.out]; simp [propB, valB_num, txts]) (by rw [← List.append_assoc, ← List.append_assoc]; exact HRF.out)
          have HFB := HBF wF vF (HGA.out.trans HGF.out)
          go_roundw
          case rel => exact ⟨k + 1, by omega, by go_num, HF.out, HFB.out⟩
          case measure => simp [Lib.intOf]; omega
        · rw [HVV.out] at HX3
          simp only at HX3
          have FT := Lib.hid (fun W => rText_any tx W (by have := isT_size hT; omega))
          have HEN := Lib.hid (show (txt tx).length ≤ 60 by rw [txt_len]; have := isT_size hT; omega)
          go_wp2_with (first
            | (go_at_call 41; first
              | (refine (FK.out _).mono ?_; clear FK; rintro x wA ⟨vA, rfl, a1, a2⟩; have HGB := Lib.hid (Grw.of_below u5 a2); have HRB := Lib.hid (own_below HRA.out a2); have HVA := Lib.hid (BR.of_own a1); have hsb : w1.heap.size ≤ wA.heap.size := Nat.le_trans hsa a2.size; clear a1 a2)
              | (refine (FT.out _).mono ?_; clear FT; rintro x wD ⟨vD, rfl, a1, a2⟩; have HGE := Lib.hid (HGD.out.trans (Grw.of_below vC a2)); have HRE := Lib.hid (own_below HRD.out a2); have HVE := Lib.hid (BR.of_own a1); have hsd : w1.heap.size ≤ wD.heap.size := Nat.le_trans hsc a2.size; clear a1 a2))
            | (go_at_call 42; refine (FN.out _).mono ?_; clear FN; rintro x wD ⟨vD, rfl, a1, a2⟩; have HGE := Lib.hid (HGD.out.trans (Grw.of_below vC a2)); have HRE := Lib.hid (own_below HRD.out a2); have HVE := Lib.hid (BR.of_own a1); have hsd : w1.heap.size ≤ wD.heap.size := Nat.le_trans hsc a2.size; clear a1 a2)
            | (at_builtin; first
              | (refine wpList_append_br rfl _ _ rfl Try.underlying34 hi hz0 hz1 hz2 rfl HRB.out rfl HVA.out (by have := HKS.out.1; omega) hsb ?_; intro vB wB e1 e2 e3; have HGC := Lib.hid (HGB.out.trans (Grw.of_at e2 e3)); have HRC := Lib.hid (own_app e1); have hsb2 : w1.heap.size ≤ wB.heap.size := Nat.le_trans hsb e2.size; clear e1 e2 e3 HRB; obtain ⟨g0, g1, g2, _⟩ := HX3.out.grw HGC.out HNE.out)
              | (refine wpList_append_own_at _ rfl _ _ 34 rfl w1.heap.size 5 i0 (.int .u8 0) 1 1 Try.underlying34 hi hz0 hz1 hz2 rfl (by decide) _ (L ++ txt key).length (byC (L ++ txt key)) rfl (HRC.out.alloc _) ⟨wB.heap.size, 0, none⟩ 1 1 [.int .u8 2] rfl rfl (cell_one_new _ _ _) (by simp [Value.oneCell']) (by have := HKS.out.1; rw [List.length_append]; unfold maxLen; omega) (by have := HKS.out.1; rw [List.length_append]; omega) (by rw [World.size_alloc]; omega) ?_; intro vC wC e1 e2 e3 e4; have HGD := Lib.hid ((HGC.out.trans (Grw.alloc vB (.cells #[.int .u8 2] 5))).trans (Grw.of_at e2 e4)); have HRD := Lib.hid (own_snoc (x := 2) (by rfl) e1); have hsc : w1.heap.size ≤ wC.heap.size := Nat.le_trans hsb2 (Nat.le_trans (by rw [World.size_alloc]; omega) e2.size); clear e1 e2 e3 e4 HRC g0 g1 g2; obtain ⟨g0, g1, g2, _⟩ := HX3.out.grw HGD.out HNE.out)
              | (refine wpList_append_br rfl _ _ rfl Try.underlying34 hi hz0 hz1 hz2 rfl HRE.out rfl HVE.out (by rw [List.length_append, List.length_append]; have := HKS.out.1; have := HEN.out; simp only [List.length_singleton]; omega) hsd ?_; intro vF wF e1 e2 e3; have HGF := Lib.hid (HGE.out.trans (Grw.of_at e2 e3)); have HRF := Lib.hid (own_app e1); clear e1 e2 e3)))
          have HF := HFIN wF vF (txt key ++ ([oct 2] ++ txt tx)) (by rw [HVV.out]; simp [propB, valB_text, txts]) (by rw [← List.append_assoc, ← List.append_assoc]; exact HRF.out)
          have HFB := HBF wF vF (HGA.out.trans HGF.out)
          go_roundw
          case rel => exact ⟨k + 1, by omega, by go_num, HF.out, HFB.out⟩
          case measure => simp [Lib.intOf]; omega
      · obtain rfl : k = n := by omega
        rw [List.take_of_length_le (by rw [HN.out]; exact Nat.le_refl _)] at hr
        have HE := Lib.hid (show R0 ++ propsB e.props = putB e by rw [HPB.out, ← HR0.out]; unfold putE; rw [HN.out])
        rw [HE.out] at hr
        have HR := Lib.hid (BR.of_own hr)
        clear hr
        go_wp2_with fail
        exact bodyPost_ret (v := .tuple #[u5, .int .i64 0]) (by simp [results, Try.results15, go_sem]) rfl ⟨_, rfl, HR.out, HW1.out.trans (HB.out.mono HW1.out.size)⟩
  · have HE := Lib.hid (show putB e = [] by unfold putB; rw [if_neg hc0])
    obtain ⟨cc, hcc⟩ : ∃ c, checkE e = c := ⟨_, rfl⟩
    rw [hcc] at HCK hc0 ⊢
    rw [HE.out]
    have hb : (cc != 0) = true := by simpa using hc0
    unfold Ed.v at HCK ⊢
    clear hc0 hcc hs
    go_enter Try.func15, Try.ntmps15
    go_wp2_with (go_at_call 17; refine (HCK.out _ HW0.out).mono ?_; clear HCK; rintro x w1 ⟨rfl, k1⟩)
    exact bodyPost_ret (v := .tuple #[.slice none 0 0, .int .i64 cc]) (by simp [results, Try.results15, go_sem]) rfl ⟨_, rfl, BR.nil _ _ _, chn HW0.out k1.below⟩
end Go.Proofs.Ytpoefcpgcojppaa
