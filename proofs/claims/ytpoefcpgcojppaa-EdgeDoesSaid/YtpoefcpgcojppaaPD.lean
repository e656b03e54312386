/- Walk of what tells whether an edge is right: the document's. -/
import Derived.Test.YtpoefcpgcojppaaPC
import Derived.BigQuiet
namespace Go.Proofs.Ytpoefcpgcojppaa
open Go.ChangeShapes Go.WideShapes Go.ChangeAt Go.RowKit
set_option linter.unusedVariables false

theorem gr_of_eq {w w' : World} (h : w = w') : ∃ q os, w' = Sort.grow (w.drewN q) os := by subst h; exact Gr.refl w
def RCheckR (e : Ed) (w : World) (x : Ending) (w' : World) : Prop := x = .returned (.int .i64 (checkE e)) ∧ Gr w w'

theorem check_bad {e : Ed} (h : ¬ (verB e.src = true ∧ verB e.dst = true ∧ freB e.lab = true ∧ areP e.props)) : checkE e = 2 := by
  unfold checkE
  rw [if_neg h]

theorem geS (W : World) (a b : ByteArray) {r : Bool} (h : Op.bytesLess a.toList b.toList = r) : (binOp .geq 9 (.string a) (.string b)).run Try.prog W = .ok (.bool (!r)) W := by
  simp [binOp, go_sem, Op.stringOp, h]

set_option maxHeartbeats 4000000 in
theorem rCheck_any {w : World} {pv : Value} {e : Ed} (h : PR w pv e.props) (hs : SzE e) : Calls Try.prog 17 #[e.v pv] w (RCheckR e w) := by
  unfold RCheckR
  have hmx := mixed
  obtain ⟨z1, z2, z3, z4⟩ := hs
  have F1 := Lib.hid (fun W => rVertex_any e.src W (le_max z1))
  have F2 := Lib.hid (fun W => rVertex_any e.dst W (le_max z2))
  have F3 := Lib.hid (fun W => rFree_any e.lab W (le_max z3))
  have F5 := Lib.hid (fun W => rIs_any e.time W)
  have H := Lib.hid h
  have HS := Lib.hid z4
  obtain ⟨A, c, rfl⟩ := h.form
  have HBAD := Lib.hid (@check_bad e)
  have HTM : Hid ((verB e.src = true ∧ verB e.dst = true ∧ freB e.lab = true ∧ areP e.props) → checkE e = if timeB e.time = true then 0 else 6) := by
    show _ → _
    intro h
    unfold checkE
    rw [if_pos h]
  clear z1 z2 z3 z4 h
  unfold Ed.v
  obtain ⟨s, d, l, t, ps⟩ := e
  simp only at *
  obtain ⟨n, hN⟩ : ∃ n, ps.length = n := ⟨_, rfl⟩
  have HN := Lib.hid hN
  have hn : n ≤ 281474976710656 := by rw [← hN]; exact HS.out.1
  rw [hN] at H ⊢
  clear hN
  have HG0 := Lib.hid ((Gr.refl w).alloc (.cells #[.string s, .string d, .string l, .int .i64 t, .slice A n c] 24))
  have HX0 := Lib.hid (Bx5.new w (.string s) (.string d) (.string l) (.int .i64 t) (.slice A n c) 24)
  cases hb1 : verB s with
  | false =>
    rw [hb1] at F1
    have HE := Lib.hid (HBAD.out (by rw [hb1]; simp))
    go_enter Try.func17, Try.ntmps17
    go_wp2_with (go_at_call 47; refine (F1.out _).mono ?_; clear F1; rintro x w1 ⟨rfl, rfl⟩)
    go_ret
    exact ⟨ret_int HE.out.symm, HG0.out⟩
  | true =>
    rw [hb1] at F1
    cases hb2 : verB d with
    | false =>
      rw [hb2] at F2
      have HE := Lib.hid (HBAD.out (by rw [hb2]; simp))
      go_enter Try.func17, Try.ntmps17
      go_wp2_with (go_at_call 47; first | (refine (F1.out _).mono ?_; clear F1; rintro x w1 ⟨rfl, rfl⟩) | (refine (F2.out _).mono ?_; clear F2; rintro x w1 ⟨rfl, rfl⟩))
      go_ret
      exact ⟨ret_int HE.out.symm, HG0.out⟩
    | true =>
      rw [hb2] at F2
      cases hb3 : freB l with
      | false =>
        rw [hb3] at F3
        have HE := Lib.hid (HBAD.out (by rw [hb3]; simp))
        go_enter Try.func17, Try.ntmps17
        go_wp2_with (first | (go_at_call 47; first | (refine (F1.out _).mono ?_; clear F1; rintro x w1 ⟨rfl, rfl⟩) | (refine (F2.out _).mono ?_; clear F2; rintro x w1 ⟨rfl, rfl⟩)) | (go_at_call 48; refine (F3.out _).mono ?_; clear F3; rintro x w1 ⟨rfl, rfl⟩))
        go_ret
        exact ⟨ret_int HE.out.symm, HG0.out⟩
      | true =>
        rw [hb3] at F3
        have HV := Lib.hid (And.intro hb1 (And.intro hb2 hb3))
        clear hb1 hb2 hb3
        by_cases h8 : 8 < n
        · have HE := Lib.hid (HBAD.out (fun h => by have := h.2.2.2.1; rw [HN.out] at this; omega))
          go_enter Try.func17, Try.ntmps17
          go_wp2_with (first | (go_at_call 47; first | (refine (F1.out _).mono ?_; clear F1; rintro x w1 ⟨rfl, rfl⟩) | (refine (F2.out _).mono ?_; clear F2; rintro x w1 ⟨rfl, rfl⟩)) | (go_at_call 48; refine (F3.out _).mono ?_; clear F3; rintro x w1 ⟨rfl, rfl⟩))
          go_ret
          exact ⟨ret_int HE.out.symm, HG0.out⟩
        · go_enter Try.func17, Try.ntmps17
          go_wp2_with (first | (go_at_call 47; first | (refine (F1.out _).mono ?_; clear F1; rintro x w1 ⟨rfl, rfl⟩) | (refine (F2.out _).mono ?_; clear F2; rintro x w1 ⟨rfl, rfl⟩)) | (go_at_call 48; refine (F3.out _).mono ?_; clear F3; rintro x w1 ⟨rfl, rfl⟩))
          go_loopw [3] (fun i wr => ∃ k : Nat, k ≤ n ∧ i = .int .i64 k ∧ (∀ j (hj : j < ps.length), j < k → okAt ps j hj) ∧ Gr w wr ∧ Bx5 wr w.heap.size (.string s) (.string d) (.string l) (.int .i64 t) (.slice A n c)) (fun i _ => n - (Lib.intOf i).toNat)
          case atStart => exact ⟨0, Nat.zero_le _, rfl, fun j _ h => absurd h (Nat.not_lt_zero j), HG0.out, HX0.out⟩
          case round =>
            obtain ⟨k, hk, rfl, ha, hg, hbx⟩ := hrel
            have HA := Lib.hid ha
            have HG := Lib.hid hg
            have HBX := Lib.hid hbx
            obtain ⟨_, _, _, b3, b4, hblt⟩ := hbx
            clear ha hg
            by_cases hlt : k < n
            · have e1 : k < ps.length := by rw [HN.out]; exact hlt
              obtain ⟨ad, f1, hab, q0, q1, q2, q3⟩ := PR.at4 (H.out.gr HG.out) e1
              subst f1
              have hsz := HS.out.2 ps[k] (List.getElem_mem e1)
              obtain ⟨p, hp⟩ : ∃ p, ps[k] = p := ⟨_, rfl⟩
              rw [hp] at q0 q1 q2 q3 hsz
              have HX := Lib.hid hp
              clear hp
              obtain ⟨key, kd, nm, tx⟩ := p
              simp only at q0 q1 q2 q3 hsz
              have hprev : ∃ (r : Bool) (pk : ByteArray), (0 < k → wr.cell? (ad.add ((k - 1) * 4)) = some (.string pk)) ∧ Op.bytesLess pk.toList key.toList = r ∧ Hid ((k = 0 ∨ r = true) ↔ (0 < k → cmpB (ps[k - 1]'(by omega)).1 (ps[k]'e1).1 = -1)) := by
                by_cases h0 : 0 < k
                · have e0 : k - 1 < ps.length := by omega
                  obtain ⟨ad', f1, _, p0, _⟩ := PR.at4 (H.out.gr HG.out) e0
                  injection f1 with f1
                  subst f1
                  refine ⟨_, ps[k - 1].1, fun _ => p0, rfl, ?_⟩
                  have hx : (ps[k]'e1).1 = key := by rw [HX.out]
                  rw [hx, blessB]
                  show _ ↔ _
                  constructor
                  · rintro (h | h)
                    · omega
                    · exact fun _ => of_decide_eq_true h
                  · exact fun h => .inr (decide_eq_true (h h0))
                · exact ⟨_, key, fun h => absurd h h0, rfl, show _ ↔ _ from ⟨fun _ h => absurd h h0, fun _ => .inl (by omega)⟩⟩
              obtain ⟨r, pk, hpk, hr, HR⟩ := hprev
              have hf := fun W => (rFree_any key W (le_max hsz.1)).mono (fun e w' (h : _ ∧ _) => (⟨h.1, gr_of_eq h.2⟩ : _ ∧ _))
              have hv := fun W => rRight_any (kd, nm, tx) W hsz.2
              unfold RightR Gr at hv
              simp only at hv
              obtain ⟨fb, hfb⟩ : ∃ b, freB key = b := ⟨_, rfl⟩
              obtain ⟨vb, hvb⟩ : ∃ b, rightV (kd, nm, tx) = b := ⟨_, rfl⟩
              rw [hfb] at hf
              rw [hvb] at hv
              have HFV := Lib.hid (And.intro hfb hvb)
              have HF := Lib.hid hf
              have HVV := Lib.hid hv
              clear hf hv hfb hvb hsz
              have HOK : Hid (okAt ps k e1 ↔ (k = 0 ∨ r = true) ∧ fb = true ∧ vb = true) := by
                show _ ↔ _
                unfold okAt
                rw [← HR.out]
                have hx1 : (ps[k]'e1).1 = key := by rw [HX.out]
                have hx2 : (ps[k]'e1).2 = (kd, nm, tx) := by rw [HX.out]
                rw [hx1, hx2, HFV.out.1, HFV.out.2]
                constructor
                · rintro ⟨a, b, c⟩; exact ⟨c, a, b⟩
                · rintro ⟨c, a, b⟩; exact ⟨a, b, c⟩
              have cF : ∀ n os, Calls Try.prog 48 #[.string key] (Sort.grow (wr.drewN n) os) fun e w'' => e = .returned (.bool fb) ∧ ∃ p : GrownBy, w'' = Sort.grow (wr.drewN p.n) p.os := fun n os => Calls.grown_of (HF.out _)
              have cV : ∀ n os, Calls Try.prog 49 #[.agg #[.int .i64 kd, .int .i64 nm, .string tx]] (Sort.grow (wr.drewN n) os) fun e w'' => e = .returned (.bool vb) ∧ ∃ p : GrownBy, w'' = Sort.grow (wr.drewN p.n) p.os := fun n os => Calls.grown_of (HVV.out _)
              have hge : ∀ W, (binOp .geq 9 (.string pk) (.string key)).run Try.prog W = .ok (.bool (!r)) W := fun W => geS W _ _ hr
              have HGO : okAt ps k e1 → Hid (∀ j (hj : j < ps.length), j < k + 1 → okAt ps j hj) := fun hok => show ∀ j (hj : j < ps.length), j < k + 1 → okAt ps j hj from fun j hj hjk => by
                by_cases he : j = k
                · subst he; exact hok
                · exact HA.out j hj (by omega)
              have HNO : ¬ okAt ps k e1 → Hid (checkE ⟨s, d, l, t, ps⟩ = 2) := fun hno => HBAD.out fun hp => hno (hp.2.2.2.2 k e1)
              -- what is read, in each world of the region
              have kb4 := cell_grown (a := ⟨w.heap.size, 4, none⟩) hblt b4
              have kq0 := cell_grown (a := ad.add (k * 4)) (by rw [block_add]; exact hab) q0
              have kq1 := cell_grown (a := ⟨(ad.add (k * 4)).block, (ad.add (k * 4)).off + 1, none⟩) (by show (ad.add (k * 4)).block < _; rw [block_add]; exact hab) q1
              have kq2 := cell_grown (a := ⟨(ad.add (k * 4)).block, (ad.add (k * 4)).off + 2, none⟩) (by show (ad.add (k * 4)).block < _; rw [block_add]; exact hab) q2
              have kq3 := cell_grown (a := ⟨(ad.add (k * 4)).block, (ad.add (k * 4)).off + 3, none⟩) (by show (ad.add (k * 4)).block < _; rw [block_add]; exact hab) q3
              cases fb with
              | false =>
                have HE := HNO (fun h => by have := (HOK.out.1 h).2.1; simp at this)
                clear hpk q0 q1 q2 q3 b3
                go_upto_region 6 with (fail)
                refine wp_region_quiet_grown hmx (by kernel_rfl) ?_
                repeat (first | go_big_quiet_skip | (go_big_quiet_want; go_big_quiet_op; first | go_big_quiet_on | go_big_quiet_call (first | exact cF _ _ | exact cV _ _)) | quiet_step (first | exact cF _ _ | exact cV _ _))
                refine wpQuiet_nil ?_
                intro _ hw'
                obtain ⟨⟨nq, osq⟩, hw''⟩ := hw'
                subst hw''
                have HGQ := Lib.hid (HG.out.trans (⟨nq, osq, rfl⟩ : Gr wr _))
                clear kb4 kq0 kq1 kq2 kq3 cF cV hge
                generalize Sort.grow (wr.drewN nq) osq = WT at *
                go_wp2_with fail
                go_ret
                exact ⟨ret_int HE.out.symm, HGQ.out⟩
              | true =>
                cases vb with
                | false =>
                  have HE := HNO (fun h => by have := (HOK.out.1 h).2.2; simp at this)
                  clear hpk q0 q1 q2 q3 b3
                  go_upto_region 6 with (fail)
                  refine wp_region_quiet_grown hmx (by kernel_rfl) ?_
                  repeat (first | go_big_quiet_skip | (go_big_quiet_want; go_big_quiet_op; first | go_big_quiet_on | go_big_quiet_call (first | exact cF _ _ | exact cV _ _)) | quiet_step (first | exact cF _ _ | exact cV _ _))
                  refine wpQuiet_nil ?_
                  intro _ hw'
                  obtain ⟨⟨nq, osq⟩, hw''⟩ := hw'
                  subst hw''
                  have HGQ := Lib.hid (HG.out.trans (⟨nq, osq, rfl⟩ : Gr wr _))
                  clear kb4 kq0 kq1 kq2 kq3 cF cV hge
                  generalize Sort.grow (wr.drewN nq) osq = WT at *
                  go_wp2_with fail
                  go_ret
                  exact ⟨ret_int HE.out.symm, HGQ.out⟩
                | true =>
                  by_cases h0 : 0 < k
                  · have kp0 := cell_grown (a := ad.add ((k - 1) * 4)) (by rw [block_add]; exact hab) (hpk h0)
                    have hk1 : IntKind.i64.wrap ((k : Int) - 1) = ((k - 1 : Nat) : Int) := by rw [IntKind.wrap_i64]; omega
                    have hk5 : ((k - 1 : Nat) : Int) < (n : Int) := by omega
                    have hk6 : k - 1 < n := by omega
                    have hk7 : decide ((0 : Int) < (k : Int)) = true := decide_eq_true (by omega)
                    cases r with
                    | false =>
                      have HE := HNO (fun h => by have := (HOK.out.1 h).1; simp at this; omega)
                      clear hpk q0 q1 q2 q3 b3
                      go_upto_region 6 with (fail)
                      refine wp_region_quiet_grown hmx (by kernel_rfl) ?_
                      repeat (first | go_big_quiet_skip | (go_big_quiet_want; go_big_quiet_op; first | go_big_quiet_on | go_big_quiet_call (first | exact cF _ _ | exact cV _ _)) | quiet_step (first | exact cF _ _ | exact cV _ _))
                      refine wpQuiet_nil ?_
                      intro _ hw'
                      obtain ⟨⟨nq, osq⟩, hw''⟩ := hw'
                      subst hw''
                      have HGQ := Lib.hid (HG.out.trans (⟨nq, osq, rfl⟩ : Gr wr _))
                      clear kb4 kq0 kq1 kq2 kq3 kp0 cF cV hge
                      generalize Sort.grow (wr.drewN nq) osq = WT at *
                      go_wp2_with fail
                      go_ret
                      exact ⟨ret_int HE.out.symm, HGQ.out⟩
                    | true =>
                      have HE := HGO (HOK.out.2 ⟨.inr rfl, rfl, rfl⟩)
                      clear hpk q0 q1 q2 q3 b3
                      go_upto_region 6 with (fail)
                      refine wp_region_quiet_grown hmx (by kernel_rfl) ?_
                      repeat (first | go_big_quiet_skip | (go_big_quiet_want; go_big_quiet_op; first | go_big_quiet_on | go_big_quiet_call (first | exact cF _ _ | exact cV _ _)) | quiet_step (first | exact cF _ _ | exact cV _ _))
                      refine wpQuiet_nil ?_
                      intro _ hw'
                      obtain ⟨⟨nq, osq⟩, hw''⟩ := hw'
                      subst hw''
                      have hgq : Gr wr (Sort.grow (wr.drewN nq) osq) := ⟨nq, osq, rfl⟩
                      have HGQ := Lib.hid (And.intro (HG.out.trans hgq) (HBX.out.below hgq.below))
                      clear kb4 kq0 kq1 kq2 kq3 kp0 cF cV hge hgq
                      generalize Sort.grow (wr.drewN nq) osq = WT at *
                      go_wp2_with fail
                      go_roundw
                      case rel => exact ⟨k + 1, by omega, by go_num, HE.out, HGQ.out.1, HGQ.out.2⟩
                      case measure => simp [Lib.intOf]; omega
                  · have hk7 : decide ((0 : Int) < (k : Int)) = false := decide_eq_false (by omega)
                    have HE := HGO (HOK.out.2 ⟨.inl (by omega), rfl, rfl⟩)
                    clear hpk q0 q1 q2 q3 b3
                    go_upto_region 6 with (fail)
                    refine wp_region_quiet_grown hmx (by kernel_rfl) ?_
                    repeat (first | go_big_quiet_skip | (go_big_quiet_want; go_big_quiet_op; first | go_big_quiet_on | go_big_quiet_call (first | exact cF _ _ | exact cV _ _)) | quiet_step (first | exact cF _ _ | exact cV _ _))
                    refine wpQuiet_nil ?_
                    intro _ hw'
                    obtain ⟨⟨nq, osq⟩, hw''⟩ := hw'
                    subst hw''
                    have hgq : Gr wr (Sort.grow (wr.drewN nq) osq) := ⟨nq, osq, rfl⟩
                    have HGQ := Lib.hid (And.intro (HG.out.trans hgq) (HBX.out.below hgq.below))
                    clear kb4 kq0 kq1 kq2 kq3 cF cV hge hgq
                    generalize Sort.grow (wr.drewN nq) osq = WT at *
                    go_wp2_with fail
                    go_roundw
                    case rel => exact ⟨k + 1, by omega, by go_num, HE.out, HGQ.out.1, HGQ.out.2⟩
                    case measure => simp [Lib.intOf]; omega
            · obtain rfl : k = n := by omega
              have HE := Lib.hid (HTM.out ⟨HV.out.1, HV.out.2.1, HV.out.2.2, by rw [HN.out]; omega, fun j hj => HA.out j hj (by rw [← HN.out]; exact hj)⟩)
              cases hb5 : timeB t with
              | true =>
                rw [hb5] at F5
                have HE2 := Lib.hid (show checkE ⟨s, d, l, t, ps⟩ = 0 by rw [HE.out, hb5]; rfl)
                clear hb5
                go_wp2_with (go_at_call 50; refine (F5.out _).mono ?_; clear F5; rintro x w1 ⟨rfl, hg5⟩)
                go_ret
                exact ⟨ret_int HE2.out.symm, HG.out.trans hg5⟩
              | false =>
                rw [hb5] at F5
                have HE2 := Lib.hid (show checkE ⟨s, d, l, t, ps⟩ = 6 by rw [HE.out, hb5]; rfl)
                clear hb5
                go_wp2_with (go_at_call 50; refine (F5.out _).mono ?_; clear F5; rintro x w1 ⟨rfl, hg5⟩)
                go_ret
                exact ⟨ret_int HE2.out.symm, HG.out.trans hg5⟩
end Go.Proofs.Ytpoefcpgcojppaa
