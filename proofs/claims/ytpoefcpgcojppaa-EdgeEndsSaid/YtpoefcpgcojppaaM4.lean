/- Texts PD, PI, PJ, PK, PL, one behind the other. -/
import Derived.Test.YtpoefcpgcojppaaM0
import Derived.Test.YtpoefcpgcojppaaM1
import Derived.Test.YtpoefcpgcojppaaM2
import Derived.Test.YtpoefcpgcojppaaM3
import Derived.BigQuiet
import Derived.Laws.IdiomStrings
import Derived.Laws.BitsLemmas
set_option linter.unusedSimpArgs false
namespace Go.Proofs.Ytpoefcpgcojppaa
open Go.ChangeShapes Go.WideShapes Go.ChangeAt Go.RowKit
set_option linter.unusedVariables false

theorem gr_of_eq {w w' : World} (h : w = w') : ∃ q os, w' = Sort.grow (w.drewN q) os := by subst h; exact Gr.refl w
def RCheckR (e : Ed) (w : World) (x : Ending) (w' : World) : Prop := x = .returned (.int .i64 (checkE e)) ∧ Gr w w'

theorem check_bad {e : Ed} (h : ¬ (verB e.src = true ∧ verB e.dst = true ∧ freB e.lab = true ∧ areP e.props)) : checkE e = 2 := by
  unfold checkE
  rw [if_neg h]

theorem geS (W : World) (a b : ByteArray) {r : Bool} (h : Op.bytesLess a.toList b.toList = r) : (binOp .geq 9 (.string a) (.string b)).run Try.prog W = .ok (.bool (!r)) W := by
  simp [binOp, go_sem, Op.stringOp, h]

set_option maxHeartbeats 4000000 in
theorem rCheck_any {w : World} {pv : Value} {e : Ed} (h : PR w pv e.props) (hs : SzE e) : Calls Try.prog 17 #[e.v pv] w (RCheckR e w) := by
  unfold RCheckR
  have hmx := mixed
  obtain ⟨z1, z2, z3, z4⟩ := hs
  have F1 := Lib.hid (fun W => rVertex_any e.src W (le_max z1))
  have F2 := Lib.hid (fun W => rVertex_any e.dst W (le_max z2))
  have F3 := Lib.hid (fun W => rFree_any e.lab W (le_max z3))
  have F5 := Lib.hid (fun W => rIs_any e.time W)
  have H := Lib.hid h
  have HS := Lib.hid z4
  obtain ⟨A, c, rfl⟩ := h.form
  have HBAD := Lib.hid (@check_bad e)
  have HTM : Hid ((verB e.src = true ∧ verB e.dst = true ∧ freB e.lab = true ∧ areP e.props) → checkE e = if timeB e.time = true then 0 else 6) := by
    show _ → _
    intro h
    unfold checkE
    rw [if_pos h]
  clear z1 z2 z3 z4 h
  unfold Ed.v
  obtain ⟨s, d, l, t, ps⟩ := e
  simp only at *
  obtain ⟨n, hN⟩ : ∃ n, ps.length = n := ⟨_, rfl⟩
  have HN := Lib.hid hN
  have hn : n ≤ 281474976710656 := by rw [← hN]; exact HS.out.1
  rw [hN] at H ⊢
  clear hN
  have HG0 := Lib.hid ((Gr.refl w).alloc (.cells #[.string s, .string d, .string l, .int .i64 t, .slice A n c] 24))
  have HX0 := Lib.hid (Bx5.new w (.string s) (.string d) (.string l) (.int .i64 t) (.slice A n c) 24)
  cases hb1 : verB s with
  | false =>
    rw [hb1] at F1
    have HE := Lib.hid (HBAD.out (by rw [hb1]; simp))
    go_enter Try.func17, Try.ntmps17
    go_wp2_with (go_at_call 47; refine (F1.out _).mono ?_; clear F1; rintro x w1 ⟨rfl, rfl⟩)
    go_ret
    exact ⟨ret_int HE.out.symm, HG0.out⟩
  | true =>
    rw [hb1] at F1
    cases hb2 : verB d with
    | false =>
      rw [hb2] at F2
      have HE := Lib.hid (HBAD.out (by rw [hb2]; simp))
      go_enter Try.func17, Try.ntmps17
      go_wp2_with (go_at_call 47; first | (refine (F1.out _).mono ?_; clear F1; rintro x w1 ⟨rfl, rfl⟩) | (refine (F2.out _).mono ?_; clear F2; rintro x w1 ⟨rfl, rfl⟩))
      go_ret
      exact ⟨ret_int HE.out.symm, HG0.out⟩
    | true =>
      rw [hb2] at F2
      cases hb3 : freB l with
      | false =>
        rw [hb3] at F3
        have HE := Lib.hid (HBAD.out (by rw [hb3]; simp))
        go_enter Try.func17, Try.ntmps17
        go_wp2_with (first | (go_at_call 47; first | (refine (F1.out _).mono ?_; clear F1; rintro x w1 ⟨rfl, rfl⟩) | (refine (F2.out _).mono ?_; clear F2; rintro x w1 ⟨rfl, rfl⟩)) | (go_at_call 48; refine (F3.out _).mono ?_; clear F3; rintro x w1 ⟨rfl, rfl⟩))
        go_ret
        exact ⟨ret_int HE.out.symm, HG0.out⟩
      | true =>
        rw [hb3] at F3
        have HV := Lib.hid (And.intro hb1 (And.intro hb2 hb3))
        clear hb1 hb2 hb3
        by_cases h8 : 8 < n
        · have HE := Lib.hid (HBAD.out (fun h => by have := h.2.2.2.1; rw [HN.out] at this; omega))
          go_enter Try.func17, Try.ntmps17
          go_wp2_with (first | (go_at_call 47; first | (refine (F1.out _).mono ?_; clear F1; rintro x w1 ⟨rfl, rfl⟩) | (refine (F2.out _).mono ?_; clear F2; rintro x w1 ⟨rfl, rfl⟩)) | (go_at_call 48; refine (F3.out _).mono ?_; clear F3; rintro x w1 ⟨rfl, rfl⟩))
          go_ret
          exact ⟨ret_int HE.out.symm, HG0.out⟩
        · go_enter Try.func17, Try.ntmps17
          go_wp2_with (first | (go_at_call 47; first | (refine (F1.out _).mono ?_; clear F1; rintro x w1 ⟨rfl, rfl⟩) | (refine (F2.out _).mono ?_; clear F2; rintro x w1 ⟨rfl, rfl⟩)) | (go_at_call 48; refine (F3.out _).mono ?_; clear F3; rintro x w1 ⟨rfl, rfl⟩))
          go_loopw [3] (fun i wr => ∃ k : Nat, k ≤ n ∧ i = .int .i64 k ∧ (∀ j (hj : j < ps.length), j < k → okAt ps j hj) ∧ Gr w wr ∧ Bx5 wr w.heap.size (.string s) (.string d) (.string l) (.int .i64 t) (.slice A n c)) (fun i _ => n - (Lib.intOf i).toNat)
          case atStart => exact ⟨0, Nat.zero_le _, rfl, fun j _ h => absurd h (Nat.not_lt_zero j), HG0.out, HX0.out⟩
          case round =>
            obtain ⟨k, hk, rfl, ha, hg, hbx⟩ := hrel
            have HA := Lib.hid ha
            have HG := Lib.hid hg
            have HBX := Lib.hid hbx
            obtain ⟨_, _, _, b3, b4, hblt⟩ := hbx
            clear ha hg
            by_cases hlt : k < n
            · have e1 : k < ps.length := by rw [HN.out]; exact hlt
              obtain ⟨ad, f1, hab, q0, q1, q2, q3⟩ := PR.at4 (H.out.gr HG.out) e1
              subst f1
              have hsz := HS.out.2 ps[k] (List.getElem_mem e1)
              obtain ⟨p, hp⟩ : ∃ p, ps[k] = p := ⟨_, rfl⟩
              rw [hp] at q0 q1 q2 q3 hsz
              have HX := Lib.hid hp
              clear hp
              obtain ⟨key, kd, nm, tx⟩ := p
              simp only at q0 q1 q2 q3 hsz
              have hprev : ∃ (r : Bool) (pk : ByteArray), (0 < k → wr.cell? (ad.add ((k - 1) * 4)) = some (.string pk)) ∧ Op.bytesLess pk.toList key.toList = r ∧ Hid ((k = 0 ∨ r = true) ↔ (0 < k → cmpB (ps[k - 1]'(by omega)).1 (ps[k]'e1).1 = -1)) := by
                by_cases h0 : 0 < k
                · have e0 : k - 1 < ps.length := by omega
                  obtain ⟨ad', f1, _, p0, _⟩ := PR.at4 (H.out.gr HG.out) e0
                  injection f1 with f1
                  subst f1
                  refine ⟨_, ps[k - 1].1, fun _ => p0, rfl, ?_⟩
                  have hx : (ps[k]'e1).1 = key := by rw [HX.out]
                  rw [hx, blessB]
                  show _ ↔ _
                  constructor
                  · rintro (h | h)
                    · omega
                    · exact fun _ => of_decide_eq_true h
                  · exact fun h => .inr (decide_eq_true (h h0))
                · exact ⟨_, key, fun h => absurd h h0, rfl, show _ ↔ _ from ⟨fun _ h => absurd h h0, fun _ => .inl (by omega)⟩⟩
              obtain ⟨r, pk, hpk, hr, HR⟩ := hprev
              have hf := fun W => (rFree_any key W (le_max hsz.1)).mono (fun e w' (h : _ ∧ _) => (⟨h.1, gr_of_eq h.2⟩ : _ ∧ _))
              have hv := fun W => rRight_any (kd, nm, tx) W hsz.2
              unfold RightR Gr at hv
              simp only at hv
              obtain ⟨fb, hfb⟩ : ∃ b, freB key = b := ⟨_, rfl⟩
              obtain ⟨vb, hvb⟩ : ∃ b, rightV (kd, nm, tx) = b := ⟨_, rfl⟩
              rw [hfb] at hf
              rw [hvb] at hv
              have HFV := Lib.hid (And.intro hfb hvb)
              have HF := Lib.hid hf
              have HVV := Lib.hid hv
              clear hf hv hfb hvb hsz
              have HOK : Hid (okAt ps k e1 ↔ (k = 0 ∨ r = true) ∧ fb = true ∧ vb = true) := by
                show _ ↔ _
                unfold okAt
                rw [← HR.out]
                have hx1 : (ps[k]'e1).1 = key := by rw [HX.out]
                have hx2 : (ps[k]'e1).2 = (kd, nm, tx) := by rw [HX.out]
                rw [hx1, hx2, HFV.out.1, HFV.out.2]
                constructor
                · rintro ⟨a, b, c⟩; exact ⟨c, a, b⟩
                · rintro ⟨c, a, b⟩; exact ⟨a, b, c⟩
              have cF : ∀ n os, Calls Try.prog 48 #[.string key] (Sort.grow (wr.drewN n) os) fun e w'' => e = .returned (.bool fb) ∧ ∃ p : GrownBy, w'' = Sort.grow (wr.drewN p.n) p.os := fun n os => Calls.grown_of (HF.out _)
              have cV : ∀ n os, Calls Try.prog 49 #[.agg #[.int .i64 kd, .int .i64 nm, .string tx]] (Sort.grow (wr.drewN n) os) fun e w'' => e = .returned (.bool vb) ∧ ∃ p : GrownBy, w'' = Sort.grow (wr.drewN p.n) p.os := fun n os => Calls.grown_of (HVV.out _)
              have hge : ∀ W, (binOp .geq 9 (.string pk) (.string key)).run Try.prog W = .ok (.bool (!r)) W := fun W => geS W _ _ hr
              have HGO : okAt ps k e1 → Hid (∀ j (hj : j < ps.length), j < k + 1 → okAt ps j hj) := fun hok => show ∀ j (hj : j < ps.length), j < k + 1 → okAt ps j hj from fun j hj hjk => by
                by_cases he : j = k
                · subst he; exact hok
                · exact HA.out j hj (by omega)
              have HNO : ¬ okAt ps k e1 → Hid (checkE ⟨s, d, l, t, ps⟩ = 2) := fun hno => HBAD.out fun hp => hno (hp.2.2.2.2 k e1)
              -- what is read, in each world of the region
              have kb4 := cell_grown (a := ⟨w.heap.size, 4, none⟩) hblt b4
              have kq0 := cell_grown (a := ad.add (k * 4)) (by rw [block_add]; exact hab) q0
              have kq1 := cell_grown (a := ⟨(ad.add (k * 4)).block, (ad.add (k * 4)).off + 1, none⟩) (by show (ad.add (k * 4)).block < _; rw [block_add]; exact hab) q1
              have kq2 := cell_grown (a := ⟨(ad.add (k * 4)).block, (ad.add (k * 4)).off + 2, none⟩) (by show (ad.add (k * 4)).block < _; rw [block_add]; exact hab) q2
              have kq3 := cell_grown (a := ⟨(ad.add (k * 4)).block, (ad.add (k * 4)).off + 3, none⟩) (by show (ad.add (k * 4)).block < _; rw [block_add]; exact hab) q3
              cases fb with
              | false =>
                have HE := HNO (fun h => by have := (HOK.out.1 h).2.1; simp at this)
                clear hpk q0 q1 q2 q3 b3
                go_upto_region 6 with (fail)
                refine wp_region_quiet_grown hmx (by kernel_rfl) ?_
                repeat (first | go_big_quiet_skip | (go_big_quiet_want; go_big_quiet_op; first | go_big_quiet_on | go_big_quiet_call (first | exact cF _ _ | exact cV _ _)) | quiet_step (first | exact cF _ _ | exact cV _ _))
                refine wpQuiet_nil ?_
                intro _ hw'
                obtain ⟨⟨nq, osq⟩, hw''⟩ := hw'
                subst hw''
                have HGQ := Lib.hid (HG.out.trans (⟨nq, osq, rfl⟩ : Gr wr _))
                clear kb4 kq0 kq1 kq2 kq3 cF cV hge
                generalize Sort.grow (wr.drewN nq) osq = WT at *
                go_wp2_with fail
                go_ret
                exact ⟨ret_int HE.out.symm, HGQ.out⟩
              | true =>
                cases vb with
                | false =>
                  have HE := HNO (fun h => by have := (HOK.out.1 h).2.2; simp at this)
                  clear hpk q0 q1 q2 q3 b3
                  go_upto_region 6 with (fail)
                  refine wp_region_quiet_grown hmx (by kernel_rfl) ?_
                  repeat (first | go_big_quiet_skip | (go_big_quiet_want; go_big_quiet_op; first | go_big_quiet_on | go_big_quiet_call (first | exact cF _ _ | exact cV _ _)) | quiet_step (first | exact cF _ _ | exact cV _ _))
                  refine wpQuiet_nil ?_
                  intro _ hw'
                  obtain ⟨⟨nq, osq⟩, hw''⟩ := hw'
                  subst hw''
                  have HGQ := Lib.hid (HG.out.trans (⟨nq, osq, rfl⟩ : Gr wr _))
                  clear kb4 kq0 kq1 kq2 kq3 cF cV hge
                  generalize Sort.grow (wr.drewN nq) osq = WT at *
                  go_wp2_with fail
                  go_ret
                  exact ⟨ret_int HE.out.symm, HGQ.out⟩
                | true =>
                  by_cases h0 : 0 < k
                  · have kp0 := cell_grown (a := ad.add ((k - 1) * 4)) (by rw [block_add]; exact hab) (hpk h0)
                    have hk1 : IntKind.i64.wrap ((k : Int) - 1) = ((k - 1 : Nat) : Int) := by rw [IntKind.wrap_i64]; omega
                    have hk5 : ((k - 1 : Nat) : Int) < (n : Int) := by omega
                    have hk6 : k - 1 < n := by omega
                    have hk7 : decide ((0 : Int) < (k : Int)) = true := decide_eq_true (by omega)
                    cases r with
                    | false =>
                      have HE := HNO (fun h => by have := (HOK.out.1 h).1; simp at this; omega)
                      clear hpk q0 q1 q2 q3 b3
                      go_upto_region 6 with (fail)
                      refine wp_region_quiet_grown hmx (by kernel_rfl) ?_
                      repeat (first | go_big_quiet_skip | (go_big_quiet_want; go_big_quiet_op; first | go_big_quiet_on | go_big_quiet_call (first | exact cF _ _ | exact cV _ _)) | quiet_step (first | exact cF _ _ | exact cV _ _))
                      refine wpQuiet_nil ?_
                      intro _ hw'
                      obtain ⟨⟨nq, osq⟩, hw''⟩ := hw'
                      subst hw''
                      have HGQ := Lib.hid (HG.out.trans (⟨nq, osq, rfl⟩ : Gr wr _))
                      clear kb4 kq0 kq1 kq2 kq3 kp0 cF cV hge
                      generalize Sort.grow (wr.drewN nq) osq = WT at *
                      go_wp2_with fail
                      go_ret
                      exact ⟨ret_int HE.out.symm, HGQ.out⟩
                    | true =>
                      have HE := HGO (HOK.out.2 ⟨.inr rfl, rfl, rfl⟩)
                      clear hpk q0 q1 q2 q3 b3
                      go_upto_region 6 with (fail)
                      refine wp_region_quiet_grown hmx (by kernel_rfl) ?_
                      repeat (first | go_big_quiet_skip | (go_big_quiet_want; go_big_quiet_op; first | go_big_quiet_on | go_big_quiet_call (first | exact cF _ _ | exact cV _ _)) | quiet_step (first | exact cF _ _ | exact cV _ _))
                      refine wpQuiet_nil ?_
                      intro _ hw'
                      obtain ⟨⟨nq, osq⟩, hw''⟩ := hw'
                      subst hw''
                      have hgq : Gr wr (Sort.grow (wr.drewN nq) osq) := ⟨nq, osq, rfl⟩
                      have HGQ := Lib.hid (And.intro (HG.out.trans hgq) (HBX.out.below hgq.below))
                      clear kb4 kq0 kq1 kq2 kq3 kp0 cF cV hge hgq
                      generalize Sort.grow (wr.drewN nq) osq = WT at *
                      go_wp2_with fail
                      go_roundw
                      case rel => exact ⟨k + 1, by omega, by go_num, HE.out, HGQ.out.1, HGQ.out.2⟩
                      case measure => simp [Lib.intOf]; omega
                  · have hk7 : decide ((0 : Int) < (k : Int)) = false := decide_eq_false (by omega)
                    have HE := HGO (HOK.out.2 ⟨.inl (by omega), rfl, rfl⟩)
                    clear hpk q0 q1 q2 q3 b3
                    go_upto_region 6 with (fail)
                    refine wp_region_quiet_grown hmx (by kernel_rfl) ?_
                    repeat (first | go_big_quiet_skip | (go_big_quiet_want; go_big_quiet_op; first | go_big_quiet_on | go_big_quiet_call (first | exact cF _ _ | exact cV _ _)) | quiet_step (first | exact cF _ _ | exact cV _ _))
                    refine wpQuiet_nil ?_
                    intro _ hw'
                    obtain ⟨⟨nq, osq⟩, hw''⟩ := hw'
                    subst hw''
                    have hgq : Gr wr (Sort.grow (wr.drewN nq) osq) := ⟨nq, osq, rfl⟩
                    have HGQ := Lib.hid (And.intro (HG.out.trans hgq) (HBX.out.below hgq.below))
                    clear kb4 kq0 kq1 kq2 kq3 cF cV hge hgq
                    generalize Sort.grow (wr.drewN nq) osq = WT at *
                    go_wp2_with fail
                    go_roundw
                    case rel => exact ⟨k + 1, by omega, by go_num, HE.out, HGQ.out.1, HGQ.out.2⟩
                    case measure => simp [Lib.intOf]; omega
            · obtain rfl : k = n := by omega
              have HE := Lib.hid (HTM.out ⟨HV.out.1, HV.out.2.1, HV.out.2.2, by rw [HN.out]; omega, fun j hj => HA.out j hj (by rw [← HN.out]; exact hj)⟩)
              cases hb5 : timeB t with
              | true =>
                rw [hb5] at F5
                have HE2 := Lib.hid (show checkE ⟨s, d, l, t, ps⟩ = 0 by rw [HE.out, hb5]; rfl)
                clear hb5
                go_wp2_with (go_at_call 50; refine (F5.out _).mono ?_; clear F5; rintro x w1 ⟨rfl, hg5⟩)
                go_ret
                exact ⟨ret_int HE2.out.symm, HG.out.trans hg5⟩
              | false =>
                rw [hb5] at F5
                have HE2 := Lib.hid (show checkE ⟨s, d, l, t, ps⟩ = 6 by rw [HE.out, hb5]; rfl)
                clear hb5
                go_wp2_with (go_at_call 50; refine (F5.out _).mono ?_; clear F5; rintro x w1 ⟨rfl, hg5⟩)
                go_ret
                exact ⟨ret_int HE2.out.symm, HG.out.trans hg5⟩
end Go.Proofs.Ytpoefcpgcojppaa

namespace Go.Proofs.Ytpoefcpgcojppaa
open Go.ChangeShapes Go.WideShapes Go.ChangeAt Go.RowKit
set_option linter.unusedVariables false

theorem own_below {w w' : World} {base n sz : Nat} {t : TypeId} {v : Value} {xs : List Value} (h : w.ownsRow base t sz v n xs) (hb : Below w.heap.size w w') : w'.ownsRow base t sz v n xs := by
  refine ⟨h.1, ?_⟩
  rcases h.2 with hn | ⟨g, cap, cur, hv, hg, hh, rest⟩
  · exact .inl hn
  · exact .inr ⟨g, cap, cur, hv, hg, (hb.block g (Array.getElem?_eq_some_iff.1 hh).1).trans hh, rest⟩
theorem own_lower {w : World} {base base' n sz : Nat} {t : TypeId} {v : Value} {xs : List Value} (h : w.ownsRow base t sz v n xs) (hb : base' ≤ base) : w.ownsRow base' t sz v n xs := by
  refine ⟨h.1, ?_⟩
  rcases h.2 with hn | ⟨g, cap, cur, hv, hg, rest⟩
  · exact .inl hn
  · exact .inr ⟨g, cap, cur, hv, Nat.le_trans hb hg, rest⟩
/-- a row of bytes, that is at the same time its own -/
theorem own_grown {w w' : World} {N base n sz : Nat} {t : TypeId} {v : Value} {xs : List Value} {W : World} (hb : Below N W w) (h : w.ownsRow base t sz v n xs) (hN : N ≤ base) (hNw : N ≤ w.heap.size) (hg : w.grownBy w' v.ownBlock) : Below N W w' :=
  hb.grown hg hNw (fun j hj => Nat.le_trans hN (own_base h j hj))

theorem Grw.of_below {w w' : World} (v : Value) (h : Below w.heap.size w w') : Grw w v w' v := ⟨⟨h.os, h.tape, h.output, h.size, fun k hk _ => h.block k hk⟩, .inl rfl⟩
theorem own_app {w : World} {base : Nat} {t : TypeId} {v : Value} {L l : List UInt8} (h : w.ownsRow base t 1 v (L.length + l.length) (byC L ++ byC l)) : w.ownsRow base t 1 v (L ++ l).length (byC (L ++ l)) := by
  rw [byC_app, List.length_append]
  exact h
theorem own_snoc {w : World} {base : Nat} {t : TypeId} {v : Value} {L : List UInt8} {x c : Int} (hc : c = ((oct x).toNat : Int)) (h : w.ownsRow base t 1 v (L.length + 1) (byC L ++ [.int .u8 c])) : w.ownsRow base t 1 v (L ++ [oct x]).length (byC (L ++ [oct x])) := by
  subst hc
  exact own_app (l := [oct x]) h
theorem txts_one (s : ByteArray) : txts [s] = txt s := by simp [txts]

set_option maxHeartbeats 4000000 in
set_option maxRecDepth 100000 in
theorem rPut_any {w : World} {pv : Value} {e : Ed} (h : PR w pv e.props) (hs : SzE e) : Calls Try.prog 15 #[e.v pv] w (PutsR e w) := by
  obtain ⟨i0, hi, hz0, hz1, hz2⟩ := info_parts5
  unfold PutsR
  have hck : ∀ W, Below w.heap.size w W → Calls Try.prog 17 #[e.v pv] W (RCheckR e W) := fun W hW => rCheck_any (h.below hW) hs
  unfold RCheckR at hck
  have HCK := Lib.hid hck
  clear hck
  have H := Lib.hid h
  have HX0 := Lib.hid (Bx5.new w (.string e.src) (.string e.dst) (.string e.lab) (.int .i64 e.time) pv 24)
  have HW0 := Lib.hid ((Below.refl w.heap.size w).alloc (Nat.le_refl _) (.cells #[.string e.src, .string e.dst, .string e.lab, .int .i64 e.time, pv] 24))
  by_cases hc0 : checkE e = 0
  · have HC0 := Lib.hid hc0
    have HPB := Lib.hid (show putB e = putE e by unfold putB; rw [if_pos hc0])
    rw [hc0] at HCK ⊢
    unfold Ed.v at HCK ⊢
    clear hc0
    obtain ⟨A, c, rfl⟩ := h.form
    clear h hs
    obtain ⟨n, hN⟩ : ∃ n, e.props.length = n := ⟨_, rfl⟩
    have HN := Lib.hid hN
    have hn8 : n ≤ 8 := by rw [← hN]; exact (check_ok.1 HC0.out).1.2.2.2.1
    rw [hN] at H HX0 HW0 HCK ⊢
    clear hN
    go_enter Try.func15, Try.ntmps15
    go_wp2_with (go_at_call 17; refine (HCK.out _ HW0.out).mono ?_; clear HCK; rintro x w1 ⟨rfl, k1⟩; have HX1 := Lib.hid (HX0.out.below k1.below); have HW1 := Lib.hid (chn HW0.out k1.below); clear k1)
    have HLEN := Lib.hid (And.intro (headB_len HC0.out) (And.intro (propsB_len e.props (areP_mem (check_ok.1 HC0.out).1.2.2.2)) (putE_len HC0.out)))
    have HV := Lib.hid (show e.src.size ≤ 20 ∧ e.dst.size ≤ 20 ∧ e.lab.size ≤ 20 from ⟨verB_size (check_ok.1 HC0.out).1.1, verB_size (check_ok.1 HC0.out).1.2.1, verB_size (freB_ver (check_ok.1 HC0.out).1.2.2.1)⟩)
    obtain ⟨B0, hB0⟩ : ∃ B, w.heap.size = B := ⟨_, rfl⟩
    have HB0 := Lib.hid hB0
    have hx1 := HX1.out
    rw [hB0] at hx1 ⊢
    obtain ⟨q0, q1, q2, q3, q4, qlt⟩ := hx1
    have HXX := Lib.hid (Bx5.mk q0 q1 q2 q3 q4 qlt)
    clear hB0 HX0 HX1
    have F1 := Lib.hid (fun W => rText_any e.src W (by have := HV.out.1; omega))
    have F2 := Lib.hid (fun W => rText_any e.dst W (by have := HV.out.2.1; omega))
    have F3 := Lib.hid (fun W => rText_any e.lab W (by have := HV.out.2.2; omega))
    have HL3 := Lib.hid (show (txt e.src).length ≤ 21 ∧ (txt e.dst).length ≤ 21 ∧ (txt e.lab).length ≤ 21 by rw [txt_len, txt_len, txt_len]; have := HV.out; omega)
    go_region_held3 (fun w' => w'.cell? ⟨B0, 0, none⟩ = some (.string e.src) ∧ w'.cell? ⟨B0, 1, none⟩ = some (.string e.dst) ∧ w'.cell? ⟨B0, 2, none⟩ = some (.string e.lab)) (first | exact ⟨q0, q1, q2⟩ | exact ⟨y0, y1, y2⟩ | exact ⟨z0, z1, z2⟩ | exact ⟨u0, u1, u2⟩ | exact ⟨x0, x1, x2⟩ | exact ⟨r0, r1, r2⟩ | (go_keep; done)) (first
      | (go_at_call 41; first
        | (refine (F1.out _).mono ?_; clear F1; rintro x wA ⟨vA, rfl, a1, a2⟩; have hlA : w1.heap.size ≤ wA.heap.size := a2.size; have HBA := Lib.hid (((Below.refl w1.heap.size w1).drew).trans a2); have HA := Lib.hid (show wA.ownsRow w1.heap.size 5 1 vA (txt e.src).length (byC (txt e.src)) from a1); clear a1 a2; obtain ⟨y0, y1, y2, y3, y4, _⟩ := Bx5.belowN HXX.out HBA.out qlt)
        | (refine (F2.out _).mono ?_; clear F2; rintro x wB ⟨vB, rfl, b1, b2⟩; have HBB := Lib.hid (HBA.out.trans (b2.mono hlA)); have hlB : w1.heap.size ≤ wB.heap.size := HBB.out.size; have HAB := Lib.hid (own_below HA.out b2); have HVB := Lib.hid (BR.of_own b1); clear b1 b2; obtain ⟨z0, z1, z2, z3, z4, _⟩ := Bx5.belowN HXX.out HBB.out qlt)
        | (refine (F3.out _).mono ?_; clear F3; rintro x wD ⟨vD, rfl, d1, d2⟩; have HBD := Lib.hid (HBC.out.trans (d2.mono hlC)); have hlD : w1.heap.size ≤ wD.heap.size := HBD.out.size; have HCD := Lib.hid (own_below HC.out d2); have HVD := Lib.hid (BR.of_own d1); clear d1 d2; obtain ⟨x0, x1, x2, x3, x4, _⟩ := Bx5.belowN HXX.out HBD.out qlt))
      | (refine step_append_br rfl (.tmp 15) (.tmp 18) rfl (base := w1.heap.size) Try.underlying34 hi hz0 hz1 hz2 (v := vA) (by simp [Act.eval, Act.put]) HAB.out (v2 := vB) (by simp [Act.eval, Act.put]) HVB.out (by have := HL3.out; omega) hlB ?_; intro vC wC e1 e2 e3; have HBC := Lib.hid (own_grown HBB.out HAB.out (Nat.le_refl _) hlB e2); have hlC : w1.heap.size ≤ wC.heap.size := HBC.out.size; have HC := Lib.hid e1; clear e1 e2 e3; obtain ⟨u0, u1, u2, u3, u4, _⟩ := Bx5.belowN HXX.out HBC.out qlt)
      | (refine step_append_br rfl (.tmp 19) (.tmp 22) rfl (base := w1.heap.size) Try.underlying34 hi hz0 hz1 hz2 (v := vC) (by simp [Act.eval, Act.put]) HCD.out (v2 := vD) (by simp [Act.eval, Act.put]) HVD.out (by have := HL3.out; omega) hlD ?_; intro vE wE e1 e2 e3; have HBE := Lib.hid (own_grown HBD.out HCD.out (Nat.le_refl _) hlD e2); have hlE : w1.heap.size ≤ wE.heap.size := HBE.out.size; have HE := Lib.hid e1; clear e1 e2 e3; obtain ⟨r0, r1, r2, r3, r4, _⟩ := Bx5.belowN HXX.out HBE.out qlt))
    clear y0 y1 y2 y3 y4 z0 z1 z2 z3 z4 u0 u1 u2 u3 u4 x0 x1 x2 x3 x4 q0 q1 q2 q3 q4 hlA hlB hlC hlD HA HAB HC HCD HVB HVD HBA HBB HBC HBD
    have HE2 := Lib.hid (show wE.ownsRow w1.heap.size 5 1 vE (txts [e.src, e.dst, e.lab]).length (byC (txts [e.src, e.dst, e.lab])) by
      have h1 : txts [e.src, e.dst, e.lab] = txt e.src ++ txt e.dst ++ txt e.lab := by simp [txts]
      rw [h1, byC_app, byC_app, List.length_append, List.length_append]
      exact HE.out)
    have hw8 := wrap_u8 (n : Int)
    have HTL := Lib.hid (show (txts [e.src, e.dst, e.lab]).length ≤ 63 ∧ (headB e).length ≤ 69 ∧ byC (txts [e.src, e.dst, e.lab]) ++ byC (num6 e.time) = byC (headB e) ∧ (txts [e.src, e.dst, e.lab]).length + (num6 e.time).length = (headB e).length by
      have h2 : headB e = txts [e.src, e.dst, e.lab] ++ num6 e.time := by simp [headB, txts]
      have h3 := HLEN.out.1
      rw [h2, ← byC_app]
      rw [h2] at h3
      rw [List.length_append, num6_len] at h3 ⊢
      exact ⟨by omega, h3, rfl, rfl⟩)
    clear HE r0 r1 r2
    go_wp2_with (first
      | (go_at_call 42; refine (rNumber_any e.time _).mono ?_; rintro x w2 ⟨v2, rfl, a1, a2⟩; have HB2 := Lib.hid (HBE.out.trans (a2.mono hlE)); have hl2 : w1.heap.size ≤ w2.heap.size := HB2.out.size; have H2 := Lib.hid (own_below HE2.out a2); have HV2 := Lib.hid (BR.of_own a1); clear a1 a2)
      | (at_builtin; first
        | (refine wpList_append_br rfl _ _ rfl Try.underlying34 hi hz0 hz1 hz2 rfl H2.out rfl HV2.out (by rw [num6_len]; have := HTL.out.1; omega) hl2 ?_; intro v3 w3 e1 e2 e3; have HB3 := Lib.hid (own_grown HB2.out H2.out (Nat.le_refl _) hl2 e2); have hl3 : w1.heap.size ≤ w3.heap.size := HB3.out.size; have H3 := Lib.hid (show w3.ownsRow w1.heap.size 5 1 v3 (headB e).length (byC (headB e)) by rw [← HTL.out.2.2.1, ← HTL.out.2.2.2]; exact e1); clear e1 e2 e3 H2; obtain ⟨t0, t1, t2, t3, t4, _⟩ := Bx5.belowN HXX.out HB3.out qlt)
        | (refine wpList_append_own_at _ rfl _ _ 34 rfl w1.heap.size 5 i0 (.int .u8 0) 1 1 Try.underlying34 hi hz0 hz1 hz2 rfl (by decide) _ (headB e).length (byC (headB e)) rfl (H3.out.alloc _) ⟨w3.heap.size, 0, none⟩ 1 1 [.int .u8 ((oct (n : Int)).toNat : Int)] rfl rfl (cell_one_new _ _ _) (by simp [Value.oneCell']) (by have := HTL.out.2.1; unfold maxLen; omega) (by have := HTL.out.2.1; omega) (by rw [World.size_alloc]; omega) ?_; intro v4 w4 e1 e2 e3 e4; have HB4 := Lib.hid (own_grown (HB3.out.alloc hl3 (.cells #[.int .u8 ((oct (n : Int)).toNat : Int)] 5)) (H3.out.alloc _) (Nat.le_refl _) (by rw [World.size_alloc]; omega) e2); have H4 := Lib.hid (show w4.ownsRow w1.heap.size 5 1 v4 (headB e ++ [oct (n : Int)]).length (byC (headB e ++ [oct (n : Int)])) by rw [byC_app, List.length_append]; exact e1); clear e1 e2 e3 e4)))
    obtain ⟨R0, hR0⟩ : ∃ R, headB e ++ [oct (n : Int)] = R := ⟨_, rfl⟩
    have HR0 := Lib.hid hR0
    have HR0l := Lib.hid (show R0.length ≤ 70 by rw [← hR0]; have := HTL.out.2.1; simp; omega)
    rw [hR0] at H4
    have HPW := Lib.hid (H.out.below (HW1.out))
    clear hR0 t0 t1 t2 t3 t4 hl2 hl3 hlE
    go_loopw [5, 6] (fun b i wr => ∃ k : Nat, k ≤ n ∧ i = .int .i64 k ∧ wr.ownsRow w1.heap.size 5 1 b (R0 ++ propsB (e.props.take k)).length (byC (R0 ++ propsB (e.props.take k))) ∧ Below w1.heap.size w1 wr) (fun _ i _ => n - (Lib.intOf i).toNat)
    case atStart => exact ⟨0, Nat.zero_le _, rfl, by simpa [propsB] using H4.out, HB4.out⟩
    case round =>
      obtain ⟨k, hk, rfl, hr, hb⟩ := hrel
      have HB := Lib.hid hb
      have hsz : w1.heap.size ≤ wr.heap.size := hb.size
      obtain ⟨_, _, _, _, c4, _⟩ := Bx5.belowN HXX.out hb qlt
      clear hb
      by_cases hlt : k < n
      · have e1 : k < e.props.length := by rw [HN.out]; exact hlt
        obtain ⟨ad, f1, hab, x0, x1, x2, x3⟩ := PR.at4 (HPW.out.below HB.out) e1
        subst f1
        have hpp := areP_mem (check_ok.1 HC0.out).1.2.2.2 _ (List.getElem_mem e1)
        obtain ⟨p, hp⟩ : ∃ p, e.props[k] = p := ⟨_, rfl⟩
        rw [hp] at x0 x1 x2 x3 hpp
        have HT : Hid (propsB (e.props.take (k + 1)) = propsB (e.props.take k) ++ propB p) := by
          show _ = _
          rw [List.take_succ_eq_append_getElem e1, hp, propsB_snoc]
        obtain ⟨L, hL⟩ : ∃ L, R0 ++ propsB (e.props.take k) = L := ⟨_, rfl⟩
        have HL := Lib.hid hL
        have hLl : L.length ≤ 900 := by
          have h1 := propsB_len (e.props.take k) (fun q hq => areP_mem (check_ok.1 HC0.out).1.2.2.2 q (List.mem_of_mem_take hq))
          have h2 := HR0l.out
          rw [List.length_take] at h1
          rw [← hL]
          simp only [List.length_append]
          omega
        rw [hL] at hr
        have HR := Lib.hid hr
        obtain ⟨key, vv⟩ := p
        simp only at x0 x1 x2 x3 hpp
        have HPP := Lib.hid hpp
        have HKS := Lib.hid (show (txt key).length ≤ 21 ∧ key.size ≤ 20 by have := verB_size (freB_ver HPP.out.1); rw [txt_len]; omega)
        have FK := Lib.hid (fun W => rText_any key W (by have := HKS.out.2; omega))
        have hwf : ∀ W : World, Grw wr u5 W u5 → Below w1.heap.size w1 W := fun W hW => HB.out.trans (hW.base hsz (own_base HR.out))
        have HWF := Lib.hid hwf
        have HFIN : ∀ (W : World) (v' : Value) (l : List UInt8), l = propB (key, vv) → W.ownsRow w1.heap.size 5 1 v' (L ++ l).length (byC (L ++ l)) → Hid (W.ownsRow w1.heap.size 5 1 v' (R0 ++ propsB (e.props.take (k + 1))).length (byC (R0 ++ propsB (e.props.take (k + 1))))) := fun W v' l hl hW => by
          show W.ownsRow _ _ _ _ _ _
          rw [HT.out, ← List.append_assoc, HL.out, ← hl]
          exact hW
        have HBF : ∀ (W : World) (v' : Value), Grw wr u5 W v' → Hid (Below w1.heap.size w1 W) := fun W v' hW => HB.out.trans (hW.base hsz (own_base HR.out))
        clear hp hL hpp hr hwf
        go_upto_region 11 with (fail)
        have hnew := Bx3.new wr (.int .i64 vv.1) (.int .i64 vv.2.1) (.string vv.2.2) 31
        have HGA := Lib.hid (Grw.alloc (w := wr) u5 (.cells #[.int .i64 vv.1, .int .i64 vv.2.1, .string vv.2.2] 31))
        have HRA := Lib.hid (HR.out.alloc (.cells #[.int .i64 vv.1, .int .i64 vv.2.1, .string vv.2.2] 31))
        have hba : Below wr.heap.size wr (wr.alloc (.cells #[.int .i64 vv.1, .int .i64 vv.2.1, .string vv.2.2] 31)) := (Below.refl _ wr).alloc (Nat.le_refl _) _
        have c4' := (hba.cell (p := ⟨B0, 4, none⟩) (by have := HB.out.size; omega)).trans c4
        have x0' := (hba.cell (p := ad.add (k * 4)) (by rw [block_add]; exact hab)).trans x0
        have HNE := Lib.hid (own_ne HR.out (Nat.le_refl wr.heap.size))
        clear x0 x1 x2 x3 hba c4
        generalize wr.alloc (.cells #[.int .i64 vv.1, .int .i64 vv.2.1, .string vv.2.2] 31) = wa at *
        obtain ⟨B1, hB1⟩ : ∃ B, wr.heap.size = B := ⟨_, rfl⟩
        rw [hB1] at hnew HNE ⊢
        have HB1 := Lib.hid hB1
        have HX3 := Lib.hid hnew
        have hlt1 := hnew.lt
        have hsa : w1.heap.size ≤ wa.heap.size := by omega
        clear hB1 hnew
        rcases right_cases HPP.out.2 with ⟨nn, hvv, n1, n2⟩ | ⟨tx, hvv, hT⟩
        all_goals have HVV := Lib.hid hvv
        all_goals clear hvv
        · rw [HVV.out] at HX3
          simp only at HX3
          have hwn : IntKind.i64.wrap (nn + 1099511627776) = nn + 1099511627776 := by rw [IntKind.wrap_i64]; omega
          have FN := Lib.hid (fun W => rNumber_any (nn + 1099511627776) W)
          have HEN := Lib.hid (show (num6 (nn + 1099511627776)).length ≤ 60 by rw [num6_len]; omega)
          go_wp2_with (first
            | (go_at_call 41; first
              | (refine (FK.out _).mono ?_; clear FK; rintro x wA ⟨vA, rfl, a1, a2⟩; have HGB := Lib.hid (Grw.of_below u5 a2); have HRB := Lib.hid (own_below HRA.out a2); have HVA := Lib.hid (BR.of_own a1); have hsb : w1.heap.size ≤ wA.heap.size := Nat.le_trans hsa a2.size; clear a1 a2)
              | (refine (FT.out _).mono ?_; clear FT; rintro x wD ⟨vD, rfl, a1, a2⟩; have HGE := Lib.hid (HGD.out.trans (Grw.of_below vC a2)); have HRE := Lib.hid (own_below HRD.out a2); have HVE := Lib.hid (BR.of_own a1); have hsd : w1.heap.size ≤ wD.heap.size := Nat.le_trans hsc a2.size; clear a1 a2))
            | (go_at_call 42; refine (FN.out _).mono ?_; clear FN; rintro x wD ⟨vD, rfl, a1, a2⟩; have HGE := Lib.hid (HGD.out.trans (Grw.of_below vC a2)); have HRE := Lib.hid (own_below HRD.out a2); have HVE := Lib.hid (BR.of_own a1); have hsd : w1.heap.size ≤ wD.heap.size := Nat.le_trans hsc a2.size; clear a1 a2)
            | (at_builtin; first
              | (refine wpList_append_br rfl _ _ rfl Try.underlying34 hi hz0 hz1 hz2 rfl HRB.out rfl HVA.out (by have := HKS.out.1; omega) hsb ?_; intro vB wB e1 e2 e3; have HGC := Lib.hid (HGB.out.trans (Grw.of_at e2 e3)); have HRC := Lib.hid (own_app e1); have hsb2 : w1.heap.size ≤ wB.heap.size := Nat.le_trans hsb e2.size; clear e1 e2 e3 HRB; obtain ⟨g0, g1, g2, _⟩ := HX3.out.grw HGC.out HNE.out)
              | (refine wpList_append_own_at _ rfl _ _ 34 rfl w1.heap.size 5 i0 (.int .u8 0) 1 1 Try.underlying34 hi hz0 hz1 hz2 rfl (by decide) _ (L ++ txt key).length (byC (L ++ txt key)) rfl (HRC.out.alloc _) ⟨wB.heap.size, 0, none⟩ 1 1 [.int .u8 1] rfl rfl (cell_one_new _ _ _) (by simp [Value.oneCell']) (by have := HKS.out.1; rw [List.length_append]; unfold maxLen; omega) (by have := HKS.out.1; rw [List.length_append]; omega) (by rw [World.size_alloc]; omega) ?_; intro vC wC e1 e2 e3 e4; have HGD := Lib.hid ((HGC.out.trans (Grw.alloc vB (.cells #[.int .u8 1] 5))).trans (Grw.of_at e2 e4)); have HRD := Lib.hid (own_snoc (x := 1) (by rfl) e1); have hsc : w1.heap.size ≤ wC.heap.size := Nat.le_trans hsb2 (Nat.le_trans (by rw [World.size_alloc]; omega) e2.size); clear e1 e2 e3 e4 HRC g0 g1 g2; obtain ⟨g0, g1, g2, _⟩ := HX3.out.grw HGD.out HNE.out)
              | (refine wpList_append_br rfl _ _ rfl Try.underlying34 hi hz0 hz1 hz2 rfl HRE.out rfl HVE.out (by rw [List.length_append, List.length_append]; have := HKS.out.1; have := HEN.out; simp only [List.length_singleton]; omega) hsd ?_; intro vF wF e1 e2 e3; have HGF := Lib.hid (HGE.out.trans (Grw.of_at e2 e3)); have HRF := Lib.hid (own_app e1); clear e1 e2 e3)))
          have HF := HFIN wF vF (txt key ++ ([oct 1] ++ num6 (nn + 1099511627776))) (by rw [HVV.out]; simp [propB, valB_num, txts]) (by rw [← List.append_assoc, ← List.append_assoc]; exact HRF.out)
          have HFB := HBF wF vF (HGA.out.trans HGF.out)
          go_roundw
          case rel => exact ⟨k + 1, by omega, by go_num, HF.out, HFB.out⟩
          case measure => simp [Lib.intOf]; omega
        · rw [HVV.out] at HX3
          simp only at HX3
          have FT := Lib.hid (fun W => rText_any tx W (by have := isT_size hT; omega))
          have HEN := Lib.hid (show (txt tx).length ≤ 60 by rw [txt_len]; have := isT_size hT; omega)
          go_wp2_with (first
            | (go_at_call 41; first
              | (refine (FK.out _).mono ?_; clear FK; rintro x wA ⟨vA, rfl, a1, a2⟩; have HGB := Lib.hid (Grw.of_below u5 a2); have HRB := Lib.hid (own_below HRA.out a2); have HVA := Lib.hid (BR.of_own a1); have hsb : w1.heap.size ≤ wA.heap.size := Nat.le_trans hsa a2.size; clear a1 a2)
              | (refine (FT.out _).mono ?_; clear FT; rintro x wD ⟨vD, rfl, a1, a2⟩; have HGE := Lib.hid (HGD.out.trans (Grw.of_below vC a2)); have HRE := Lib.hid (own_below HRD.out a2); have HVE := Lib.hid (BR.of_own a1); have hsd : w1.heap.size ≤ wD.heap.size := Nat.le_trans hsc a2.size; clear a1 a2))
            | (go_at_call 42; refine (FN.out _).mono ?_; clear FN; rintro x wD ⟨vD, rfl, a1, a2⟩; have HGE := Lib.hid (HGD.out.trans (Grw.of_below vC a2)); have HRE := Lib.hid (own_below HRD.out a2); have HVE := Lib.hid (BR.of_own a1); have hsd : w1.heap.size ≤ wD.heap.size := Nat.le_trans hsc a2.size; clear a1 a2)
            | (at_builtin; first
              | (refine wpList_append_br rfl _ _ rfl Try.underlying34 hi hz0 hz1 hz2 rfl HRB.out rfl HVA.out (by have := HKS.out.1; omega) hsb ?_; intro vB wB e1 e2 e3; have HGC := Lib.hid (HGB.out.trans (Grw.of_at e2 e3)); have HRC := Lib.hid (own_app e1); have hsb2 : w1.heap.size ≤ wB.heap.size := Nat.le_trans hsb e2.size; clear e1 e2 e3 HRB; obtain ⟨g0, g1, g2, _⟩ := HX3.out.grw HGC.out HNE.out)
              | (refine wpList_append_own_at _ rfl _ _ 34 rfl w1.heap.size 5 i0 (.int .u8 0) 1 1 Try.underlying34 hi hz0 hz1 hz2 rfl (by decide) _ (L ++ txt key).length (byC (L ++ txt key)) rfl (HRC.out.alloc _) ⟨wB.heap.size, 0, none⟩ 1 1 [.int .u8 2] rfl rfl (cell_one_new _ _ _) (by simp [Value.oneCell']) (by have := HKS.out.1; rw [List.length_append]; unfold maxLen; omega) (by have := HKS.out.1; rw [List.length_append]; omega) (by rw [World.size_alloc]; omega) ?_; intro vC wC e1 e2 e3 e4; have HGD := Lib.hid ((HGC.out.trans (Grw.alloc vB (.cells #[.int .u8 2] 5))).trans (Grw.of_at e2 e4)); have HRD := Lib.hid (own_snoc (x := 2) (by rfl) e1); have hsc : w1.heap.size ≤ wC.heap.size := Nat.le_trans hsb2 (Nat.le_trans (by rw [World.size_alloc]; omega) e2.size); clear e1 e2 e3 e4 HRC g0 g1 g2; obtain ⟨g0, g1, g2, _⟩ := HX3.out.grw HGD.out HNE.out)
              | (refine wpList_append_br rfl _ _ rfl Try.underlying34 hi hz0 hz1 hz2 rfl HRE.out rfl HVE.out (by rw [List.length_append, List.length_append]; have := HKS.out.1; have := HEN.out; simp only [List.length_singleton]; omega) hsd ?_; intro vF wF e1 e2 e3; have HGF := Lib.hid (HGE.out.trans (Grw.of_at e2 e3)); have HRF := Lib.hid (own_app e1); clear e1 e2 e3)))
          have HF := HFIN wF vF (txt key ++ ([oct 2] ++ txt tx)) (by rw [HVV.out]; simp [propB, valB_text, txts]) (by rw [← List.append_assoc, ← List.append_assoc]; exact HRF.out)
          have HFB := HBF wF vF (HGA.out.trans HGF.out)
          go_roundw
          case rel => exact ⟨k + 1, by omega, by go_num, HF.out, HFB.out⟩
          case measure => simp [Lib.intOf]; omega
      · obtain rfl : k = n := by omega
        rw [List.take_of_length_le (by rw [HN.out]; exact Nat.le_refl _)] at hr
        have HE := Lib.hid (show R0 ++ propsB e.props = putB e by rw [HPB.out, ← HR0.out]; unfold putE; rw [HN.out])
        rw [HE.out] at hr
        have HR := Lib.hid (BR.of_own hr)
        clear hr
        go_wp2_with fail
        exact bodyPost_ret (v := .tuple #[u5, .int .i64 0]) (by simp [results, Try.results15, go_sem]) rfl ⟨_, rfl, HR.out, HW1.out.trans (HB.out.mono HW1.out.size)⟩
  · have HE := Lib.hid (show putB e = [] by unfold putB; rw [if_neg hc0])
    obtain ⟨cc, hcc⟩ : ∃ c, checkE e = c := ⟨_, rfl⟩
    rw [hcc] at HCK hc0 ⊢
    rw [HE.out]
    have hb : (cc != 0) = true := by simpa using hc0
    unfold Ed.v at HCK ⊢
    clear hc0 hcc hs
    go_enter Try.func15, Try.ntmps15
    go_wp2_with (go_at_call 17; refine (HCK.out _ HW0.out).mono ?_; clear HCK; rintro x w1 ⟨rfl, k1⟩)
    exact bodyPost_ret (v := .tuple #[.slice none 0 0, .int .i64 cc]) (by simp [results, Try.results15, go_sem]) rfl ⟨_, rfl, BR.nil _ _ _, chn HW0.out k1.below⟩
end Go.Proofs.Ytpoefcpgcojppaa

namespace Go.Proofs.Ytpoefcpgcojppaa
open Go.ChangeShapes Go.WideShapes Go.ChangeAt Go.RowKit
set_option linter.unusedVariables false

/-- the slice v holds just the bytes of l, in a block ahead of B -/
def SB (w : World) (B : Nat) (v : Value) (l : List UInt8) : Prop :=
  ∃ A c, v = .slice A l.length c ∧ l.length ≤ c ∧ (0 < l.length → ∃ ad, A = some ad ∧ ad.block < B ∧ ad.block < w.heap.size ∧ ∀ j u, (byC l)[j]? = some u → w.cell? (ad.add j) = some u) ∧ (A = none → c = 0)
/-- block B holds the slice whose bytes are still to be read -/
structure RdS (w : World) (B : Nat) (l : List UInt8) : Prop where
  ex : ∃ v, w.cell? ⟨B, 0, none⟩ = some v ∧ SB w B v l
  fr : w.frozen? ⟨B, 0, none⟩ = false
  lt : B < w.heap.size
theorem SB.br {w : World} {B : Nat} {v : Value} {l : List UInt8} (h : SB w B v l) : BR w v l := by
  obtain ⟨A, c, rfl, _, h, _⟩ := h
  refine ⟨A, c, rfl, fun hn => ?_⟩
  obtain ⟨ad, h1, _, h2, h3⟩ := h hn
  exact ⟨ad, h1, h2, h3⟩
theorem SB.keep {w w' : World} {B : Nat} {v : Value} {l : List UInt8} (h : SB w B v l) (hk : Keep (fun k => k < B) w w') : SB w' B v l := by
  obtain ⟨A, c, rfl, hc, h, h0⟩ := h
  refine ⟨A, c, rfl, hc, fun hn => ?_, h0⟩
  obtain ⟨ad, h1, h2, h3, h4⟩ := h hn
  exact ⟨ad, h1, h2, Nat.lt_of_lt_of_le h3 hk.size, fun j u hj => (World.cell?_of_block (a := ad.add j) (by rw [block_add]; exact hk.block _ h3 h2)).trans (h4 j u hj)⟩
theorem SB.keepB {w w' : World} {B : Nat} {v : Value} {l : List UInt8} (h : SB w B v l) (hk : Keep (fun k => k ≠ B) w w') : SB w' B v l := h.keep ⟨hk.os, hk.tape, hk.output, hk.size, fun k hlt hb => hk.block k hlt (by show k ≠ B; omega)⟩
theorem SB.take {w : World} {B : Nat} {A : Option Addr} {n c : Nat} {l : List UInt8} (h : SB w B (.slice A n c) l) {k : Nat} (hk : k ≤ n) : SB w B (.slice A k c) (l.take k) := by
  obtain ⟨A', c', e, hc, h, h0⟩ := h
  injection e with e1 e2 e3
  subst e1 e2 e3
  have hl : (l.take k).length = k := by rw [List.length_take, Nat.min_eq_left hk]
  refine ⟨A, c, by rw [hl], by omega, fun hn => ?_, h0⟩
  obtain ⟨ad, h1, h2, h3, h4⟩ := h (by omega)
  refine ⟨ad, h1, h2, h3, fun j u hj => h4 j u ?_⟩
  have e : byC l = byC (l.take k) ++ byC (l.drop k) := by rw [← byC_app, List.take_append_drop]
  rw [e, List.getElem?_append_left (List.getElem?_eq_some_iff.1 hj).1]
  exact hj
theorem SB.drop {w : World} {B : Nat} {ad : Addr} {n c : Nat} {l : List UInt8} (h : SB w B (.slice (some ad) n c) l) {k : Nat} (hk : k ≤ n) : SB w B (.slice (if c = k then some ad else some (ad.add k)) (n - k) (c - k)) (l.drop k) := by
  obtain ⟨A', c', e, hc, h, h0⟩ := h
  injection e with e1 e2 e3
  subst e1 e2 e3
  refine ⟨_, _, by rw [List.length_drop], by rw [List.length_drop]; omega, fun hn => ?_, fun h => by split at h <;> cases h⟩
  rw [List.length_drop] at hn
  obtain ⟨ad', h1, h2, h3, h4⟩ := h (by omega)
  injection h1 with h1
  subst h1
  rw [if_neg (by omega)]
  refine ⟨_, rfl, by rw [block_add]; exact h2, by rw [block_add]; exact h3, fun j u hj => ?_⟩
  rw [add_of_add]
  refine h4 _ u ?_
  have e : byC l = byC (l.take k) ++ byC (l.drop k) := by rw [← byC_app, List.take_append_drop]
  have hl : (byC (l.take k)).length = k := by rw [byC_len, List.length_take]; omega
  rw [e, List.getElem?_append_right (by omega), hl, Nat.add_sub_cancel_left]
  exact hj
theorem RdS.keep {w w' : World} {B : Nat} {l : List UInt8} (h : RdS w B l) {p : Nat → Prop} (hk : Keep p w w') (hp : ∀ k, k ≤ B → p k) : RdS w' B l := by
  obtain ⟨⟨v, h1, h2⟩, h3, h4⟩ := h
  have hb := hk.block B h4 (hp B (Nat.le_refl _))
  refine ⟨⟨v, (World.cell?_of_block (a := ⟨B, 0, none⟩) hb).trans h1, h2.keep ⟨hk.os, hk.tape, hk.output, hk.size, fun k hlt hb => hk.block k hlt (hp k (Nat.le_of_lt hb))⟩⟩, ?_, Nat.lt_of_lt_of_le h4 hk.size⟩
  have : w'.frozen? ⟨B, 0, none⟩ = w.frozen? ⟨B, 0, none⟩ := by simp only [World.frozen?, hb]
  rw [this]
  exact h3
theorem RdS.below {w w' : World} {B : Nat} {l : List UInt8} (h : RdS w B l) (hb : Below w.heap.size w w') : RdS w' B l := h.keep (p := fun _ => True) (Keep.of_below hb) fun _ _ => trivial
theorem keep_set (w : World) (B : Nat) (v : Value) : Keep (fun k => k ≠ B) w (w.setCell ⟨B, 0, none⟩ v) :=
  ⟨rfl, rfl, rfl, by simp, fun k hk hne => by rw [Below.heap_setCell _ _ _ _ hne]⟩
theorem RdS.set {w : World} {B : Nat} {l l' : List UInt8} {v : Value} (h : RdS w B l) (hv : SB w B v l') : RdS (w.setCell ⟨B, 0, none⟩ v) B l' := by
  obtain ⟨⟨u, h1, h2⟩, h3, h4⟩ := h
  exact ⟨⟨v, World.cell?_setCell_same' _ _ _ (by rw [h1]; rfl), hv.keepB (keep_set w B v)⟩, by rw [World.frozen?_setCell]; exact h3, by simpa using h4⟩

/-- so many bytes were read -/
def NextR (B n : Nat) (l : List UInt8) (w : World) (e : Ending) (w' : World) : Prop := ∃ v, e = .returned v ∧ SB w' B v (l.take n) ∧ RdS w' B (l.drop n) ∧ Keep (fun k => k ≠ B) w w'

set_option maxHeartbeats 1000000 in
theorem next_any {w : World} {B : Nat} {l : List UInt8} (h : RdS w B l) (n : Nat) (hn : n ≤ 281474976710656) (hl : l.length ≤ 281474976710656) : Calls Try.prog 80 #[.int .i64 n, .pointer (some ⟨B, 0, none⟩)] w (NextR B n l w) := by
  unfold NextR
  have H := Lib.hid h
  obtain ⟨⟨v, c0, hv⟩, f0, hlt⟩ := h
  have HV := Lib.hid hv
  obtain ⟨A, c, rfl, hc, _, hA⟩ := hv
  obtain ⟨m, hM⟩ : ∃ m, l.length = m := ⟨_, rfl⟩
  have HM := Lib.hid hM
  rw [hM] at c0 HV hc hl
  clear hM
  obtain ⟨k, hk⟩ : ∃ k, min n m = k := ⟨_, rfl⟩
  have hkz : min (n : Int) (m : Int) = (k : Int) := by omega
  have hkm : k ≤ m := by omega
  have hkc : k ≤ c := by omega
  have HT := Lib.hid (show l.take n = l.take k ∧ l.drop n = l.drop k by
    rw [← hk]
    by_cases h : n ≤ m
    · rw [Nat.min_eq_left h]; exact ⟨rfl, rfl⟩
    · rw [Nat.min_eq_right (by omega), List.take_of_length_le (by rw [HM.out]; omega), List.take_of_length_le (by rw [HM.out]; exact Nat.le_refl _), List.drop_eq_nil_of_le (by rw [HM.out]; omega), List.drop_eq_nil_of_le (by rw [HM.out]; exact Nat.le_refl _)]
      exact ⟨rfl, rfl⟩)
  rw [HT.out.1, HT.out.2]
  cases A with
  | none =>
    have hc0 : c = 0 := hA rfl
    subst hc0
    obtain rfl : m = 0 := by omega
    obtain rfl : k = 0 := by omega
    have hl0 : l = [] := List.eq_nil_of_length_eq_zero HM.out
    subst hl0
    have hfin : SB (w.setCell ⟨B, 0, none⟩ (.slice none 0 0)) B (.slice none 0 0) [] := ⟨none, 0, rfl, Nat.le_refl _, fun h => absurd h (by simp), fun _ => rfl⟩
    have HF := Lib.hid hfin
    have HR := Lib.hid (H.out.set (v := .slice none 0 0) HV.out)
    clear hfin hc hA hl
    have hkz0 : min (n : Int) 0 = 0 := by omega
    go_enter Try.func80, Try.ntmps80
    go_wp2_with fail
    go_ret
    exact ⟨_, rfl, HF.out, HR.out, keep_set w B _⟩
  | some ad =>
    have HS := Lib.hid (And.intro (HV.out.take hkm) (HV.out.drop hkm))
    clear hA
    by_cases hck : c = k
    · have HD := Lib.hid (show SB w B (.slice (some ad) 0 0) (l.drop k) by have h1 := HS.out.2; have h2 : m - k = 0 := (by omega); rw [if_pos hck, hck, Nat.sub_self, h2] at h1; exact h1)
      subst hck
      go_enter Try.func80, Try.ntmps80
      go_wp2_with fail
      go_ret
      exact ⟨_, rfl, HS.out.1.keepB (keep_set w B _), H.out.set HD.out, keep_set w B _⟩
    · have HD := Lib.hid (show SB w B (.slice (some (ad.add k)) (m - k) (c - k)) (l.drop k) by have := HS.out.2; rwa [if_neg hck] at this)
      have hck2 : ¬ c - k = 0 := by omega
      go_enter Try.func80, Try.ntmps80
      go_wp2_with fail
      go_ret
      exact ⟨_, rfl, HS.out.1.keepB (keep_set w B _), H.out.set HD.out, keep_set w B _⟩

/-! ### a number -/
theorem beN_take {l : List UInt8} {k : Nat} (h : k < l.length) : beN (l.take (k + 1)) = beN (l.take k) * 256 + (l[k].toNat : Int) := by
  rw [List.take_succ_eq_append_getElem h]
  unfold beN
  rw [List.foldl_append]
  rfl
theorem beN_bound : ∀ (l : List UInt8), 0 ≤ beN l ∧ beN l < 256 ^ l.length := by
  intro l
  suffices h : ∀ (l : List UInt8) (s : Int), 0 ≤ s → 0 ≤ l.foldl (fun s c => s * 256 + (c.toNat : Int)) s ∧ l.foldl (fun s c => s * 256 + (c.toNat : Int)) s < (s + 1) * 256 ^ l.length by
    have := h l 0 (by omega)
    rw [show ((0 : Int) + 1) * 256 ^ l.length = 256 ^ l.length by rw [Int.zero_add, Int.one_mul]] at this
    exact this
  intro l
  induction l with
  | nil => intro s hs; simp; omega
  | cons c l ih =>
    intro s hs
    have hc := c.toNat_lt
    have h := ih (s * 256 + (c.toNat : Int)) (by omega)
    simp only [List.foldl_cons, List.length_cons]
    refine ⟨h.1, Int.lt_of_lt_of_le h.2 ?_⟩
    rw [Int.pow_succ', ← Int.mul_assoc]
    exact Int.mul_le_mul_of_nonneg_right (by omega) (Int.pow_nonneg (by omega))
theorem beN_small {l : List UInt8} (h : l.length ≤ 6) : beN l < 281474976710656 := by
  have := (beN_bound l).2
  generalize beN l = x at this ⊢
  generalize l.length = n at this h
  have hn : n = 0 ∨ n = 1 ∨ n = 2 ∨ n = 3 ∨ n = 4 ∨ n = 5 ∨ n = 6 := by omega
  rcases hn with rfl | rfl | rfl | rfl | rfl | rfl | rfl <;> simp at this <;> omega
theorem or_byte (s c : Int) (h0 : 0 ≤ s) (h1 : s < 1099511627776) (c0 : 0 ≤ c) (c1 : c < 256) : bits .or .i64 (s * 256) c = s * 256 + c :=
  bits_join .i64 63 (by decide) (fun n a b => by rw [IntKind.wrap_i64]; omega) 8 (s * 256) c (by omega) (by omega) (by omega) (by omega) (by omega) (by omega)

def NumR (B n : Nat) (l : List UInt8) (w : World) (e : Ending) (w' : World) : Prop := e = .returned (.int .i64 (beN (l.take n))) ∧ RdS w' B (l.drop n) ∧ Keep (fun k => k ≠ B) w w'

set_option maxHeartbeats 1000000 in
theorem number_any {w : World} {B N : Nat} {l : List UInt8} (h : RdS w B l) (hN : w.cell? ⟨N, 0, none⟩ = some (.func (.func 80) #[] #[.pointer (some ⟨B, 0, none⟩)])) (n : Nat) (hn : n ≤ 6) (hl : l.length ≤ 281474976710656) : Calls Try.prog 81 #[.int .i64 n, .pointer (some ⟨N, 0, none⟩)] w (NumR B n l w) := by
  unfold NumR
  have hfn := next_any h n (by omega) hl
  unfold NextR at hfn
  have hL6 : (l.take n).length ≤ 6 := by rw [List.length_take]; omega
  generalize l.take n = L at hfn hL6 ⊢
  generalize l.drop n = D at hfn ⊢
  obtain ⟨m, hM⟩ : ∃ m, L.length = m := ⟨_, rfl⟩
  have HM := Lib.hid hM
  rw [hM] at hL6
  have FN := Lib.hid hfn
  clear h hfn hM
  go_enter Try.func81, Try.ntmps81
  go_wp2_with (go_at_call 80; refine FN.out.mono ?_; clear FN; rintro e w1 ⟨v, rfl, h1, h2, h3⟩; have HV := Lib.hid h1.br; have HR := Lib.hid (And.intro h2 h3); clear h1 h2 h3; obtain ⟨A, c, hf⟩ := HV.out.form; rw [HM.out] at hf; subst hf)
  go_loop [4, 11] (fun s i => ∃ k : Nat, k ≤ m ∧ i = .int .i64 k ∧ s = .int .i64 (beN (L.take k))) (fun _ i => m - (Lib.intOf i).toNat)
  case atStart => exact ⟨0, Nat.zero_le _, rfl, rfl⟩
  case round =>
    obtain ⟨k, hk, rfl, rfl⟩ := hrel
    by_cases hlt : k < m
    · have e1 : k < L.length := by rw [HM.out]; exact hlt
      obtain ⟨ad, f1, _, q0⟩ := BR.at1 HV.out e1
      subst f1
      obtain ⟨c1, hc1⟩ : ∃ c, L[k] = c := ⟨_, rfl⟩
      have HST : Hid (beN (L.take (k + 1)) = beN (L.take k) * 256 + (c1.toNat : Int)) := by
        show _ = _
        rw [beN_take e1, hc1]
      rw [hc1] at q0
      have hb1 := (beN_bound (L.take k)).1
      have hb2 : beN (L.take k) < 1099511627776 := by
        have h5 : (L.take k).length ≤ 5 := by rw [List.length_take]; omega
        have := (beN_bound (L.take k)).2
        generalize beN (L.take k) = x at this ⊢
        generalize (L.take k).length = q at this h5
        have hq : q = 0 ∨ q = 1 ∨ q = 2 ∨ q = 3 ∨ q = 4 ∨ q = 5 := by omega
        rcases hq with rfl | rfl | rfl | rfl | rfl | rfl <;> simp at this <;> omega
      obtain ⟨x, hx⟩ : ∃ x, beN (L.take k) = x := ⟨_, rfl⟩
      rw [hx] at hb1 hb2 HST ⊢
      have hor := or_byte x (c1.toNat : Int) hb1 hb2 (by omega) (by have := c1.toNat_lt; omega)
      have hwc : IntKind.i64.wrap (c1.toNat : Int) = (c1.toNat : Int) := by rw [IntKind.wrap_i64]; have := c1.toNat_lt; omega
      have hwr : IntKind.i64.wrap (x * 256) = x * 256 := by rw [IntKind.wrap_i64]; omega
      clear hx hc1
      go_wp2_with fail
      go_round
      case rel => exact ⟨k + 1, by omega, by go_num, by rw [HST.out]⟩
      case measure => simp [Lib.intOf]; omega
    · obtain rfl : k = m := by omega
      rw [List.take_of_length_le (by rw [HM.out]; exact Nat.le_refl _)]
      go_wp2_with fail
      go_ret
      exact ⟨rfl, HR.out.1, HR.out.2⟩
end Go.Proofs.Ytpoefcpgcojppaa

namespace Go.Proofs.Ytpoefcpgcojppaa
open Go.ChangeShapes Go.WideShapes Go.ChangeAt Go.RowKit
set_option linter.unusedVariables false

theorem conv_br {w : World} {v : Value} {l : List UInt8} (h : BR w v l) : (convert 34 9 v).run Try.prog w = .ok (.string (bT l)) w := by
  obtain ⟨A, c, rfl, hc⟩ := h
  cases A with
  | none =>
    have h0 : l = [] := by
      cases l with
      | nil => rfl
      | cons a r =>
        obtain ⟨ad, e, _⟩ := hc (by simp)
        cases e
    subst h0
    show (convert 34 9 (.slice none 0 c)).run Try.prog w = _
    rw [run_convert_bytes_string w 34 9 5 none 0 c Try.underlying34 Try.underlying5 Try.underlying9]
    rfl
  | some ad =>
    exact run_convert_bytes_back w 34 9 5 ad c l Try.underlying34 Try.underlying5 Try.underlying9 (fun j hj => by
      obtain ⟨ad', e, _, hcc⟩ := hc (by omega)
      injection e with e
      rw [e]
      exact hcc _ _ (byC_at l j hj))

/-- the closures' own cells -/
structure Env (w : World) (B NX NB : Nat) : Prop where
  nx : w.cell? ⟨NX, 0, none⟩ = some (.func (.func 80) #[] #[.pointer (some ⟨B, 0, none⟩)])
  nb : w.cell? ⟨NB, 0, none⟩ = some (.func (.func 81) #[] #[.pointer (some ⟨NX, 0, none⟩)])
  hx : NX ≠ B
  hb : NB ≠ B
  lx : NX < w.heap.size
  lb : NB < w.heap.size
theorem Env.keep {w w' : World} {B NX NB : Nat} (h : Env w B NX NB) (hk : Keep (fun k => k ≠ B) w w') : Env w' B NX NB :=
  ⟨(World.cell?_of_block (a := ⟨NX, 0, none⟩) (hk.block NX h.lx h.hx)).trans h.nx, (World.cell?_of_block (a := ⟨NB, 0, none⟩) (hk.block NB h.lb h.hb)).trans h.nb, h.hx, h.hb, Nat.lt_of_lt_of_le h.lx hk.size, Nat.lt_of_lt_of_le h.lb hk.size⟩
theorem keepB_trans {B : Nat} {a b c : World} (h : Keep (fun k => k ≠ B) a b) (k : Keep (fun k => k ≠ B) b c) : Keep (fun k => k ≠ B) a c := h.trans k fun _ _ h => h
theorem keepB_below {B : Nat} {a b : World} (h : Below a.heap.size a b) : Keep (fun k => k ≠ B) a b := Keep.of_below h

def TextR (B : Nat) (l : List UInt8) (w : World) (e : Ending) (w' : World) : Prop := e = .returned (.string (rdT l).1) ∧ RdS w' B (rdT l).2 ∧ Keep (fun k => k ≠ B) w w'
theorem beN1 (l : List UInt8) : 0 ≤ beN (l.take 1) ∧ beN (l.take 1) < 256 := by
  have h := beN_bound (l.take 1)
  refine ⟨h.1, ?_⟩
  have h2 : (l.take 1).length ≤ 1 := by rw [List.length_take]; omega
  generalize (l.take 1).length = n at h h2
  have hn : n = 0 ∨ n = 1 := by omega
  have h3 := h.2
  rcases hn with rfl | rfl
  · simp at h3; omega
  · simp at h3; omega

set_option maxHeartbeats 1000000 in
theorem text_read {w : World} {B NX NB : Nat} {l : List UInt8} (h : RdS w B l) (he : Env w B NX NB) (hl : l.length ≤ 281474976710656) : Calls Try.prog 82 #[.pointer (some ⟨NX, 0, none⟩), .pointer (some ⟨NB, 0, none⟩)] w (TextR B l w) := by
  unfold TextR rdT
  obtain ⟨q, hq⟩ : ∃ q : Nat, beN (l.take 1) = (q : Int) := ⟨(beN (l.take 1)).toNat, by have := (beN1 l).1; omega⟩
  have hq1 : q < 256 := by have := (beN1 l).2; omega
  have hnum : ∀ W, Below w.heap.size w W → Calls Try.prog 81 #[.int .i64 1, .pointer (some ⟨NX, 0, none⟩)] W (NumR B 1 l W) := fun W hW => number_any (h.below hW) ((he.keep (keepB_below hW)).nx) 1 (by omega) hl
  unfold NumR at hnum
  rw [hq] at hnum ⊢
  rw [Int.toNat_natCast]
  have hl2 : (l.drop 1).length ≤ 281474976710656 := by rw [List.length_drop]; omega
  have FN := Lib.hid hnum
  have HE := Lib.hid he
  have HWD := Lib.hid ((Below.refl w.heap.size w).drew)
  obtain ⟨c0, c1, _, _, _, _⟩ := he
  generalize l.drop 1 = D at FN hl2 ⊢
  have hnx := fun W (hR : RdS W B D) => next_any hR q (by omega) hl2
  unfold NextR at hnx
  generalize D.take q = T at hnx ⊢
  generalize D.drop q = D2 at hnx ⊢
  obtain ⟨m, hM⟩ : ∃ m, T.length = m := ⟨_, rfl⟩
  have HM := Lib.hid hM
  have FX := Lib.hid hnx
  clear hnum hq h hl hM hnx
  go_enter Try.func82, Try.ntmps82
  go_wp2_with fail
  go_region_with (first
    | (go_at_call 81; refine (FN.out _ HWD.out).mono ?_; clear FN; rintro e w1 ⟨rfl, h1, h2⟩; have HK1 := Lib.hid (keepB_trans (keepB_below HWD.out) h2); have HR1 := Lib.hid h1; obtain ⟨d0, d1, _, _, _, _⟩ := HE.out.keep HK1.out; clear h1 h2)
    | (go_at_call 80; refine (FX.out _ HR1.out).mono ?_; clear FX; rintro e w2 ⟨v, rfl, h1, h2, h3⟩; have HK2 := Lib.hid (keepB_trans HK1.out h3); have HR2 := Lib.hid h2; have hcv := conv_br h1.br; obtain ⟨A, c, hf⟩ := h1.br.form; rw [HM.out] at hf; subst hf; obtain ⟨e0, e1, _, _, _, _⟩ := HE.out.keep HK2.out; clear h1 h2 h3))
  all_goals go_wp2_with fail
  all_goals go_ret
  all_goals exact ⟨rfl, HR2.out, HK2.out⟩

/-! ### values made -/
theorem num_any (n : Int) (w : World) : Calls Try.prog 84 #[.int .i64 n] w fun e w' => e = .returned (.agg #[.int .i64 1, .int .i64 n, .string ⟨#[]⟩]) ∧ Below w.heap.size w w' := by
  go_enter Try.func84, Try.ntmps84
  go_wp2
  refine bodyPost_ret (v := .agg #[.int .i64 1, .int .i64 n, .string ⟨#[]⟩]) (by simp [results, Try.results84, go_sem]) rfl ⟨rfl, ?_⟩
  go_grown
theorem clone_any (s : ByteArray) (w : World) (hlim : s.size ≤ 281474976710656) : Calls Try.prog 90 #[.string s] w fun e w' => e = .returned (.string s) ∧ Below w.heap.size w w' := by
  go_enter Try.func90, Try.ntmps90
  go_wp2_with (go_at_call 94; refine (Try.stringslite_Clone s _ hlim).mono ?_; rintro e w1 ⟨rfl, hb⟩)
  go_ret
  exact ⟨rfl, hb⟩
structure Fx3 (w : World) (b : Nat) : Prop where
  f0 : w.frozen? ⟨b, 0, none⟩ = false
  f1 : w.frozen? ⟨b, 1, none⟩ = false
  f2 : w.frozen? ⟨b, 2, none⟩ = false
theorem Fx3.of {w : World} {b : Nat} {v0 v1 v2 : Value} {t : TypeId} (h : w.heap[b]? = some (.cells #[v0, v1, v2] t (0, 0))) : Fx3 w b :=
  ⟨by simp [World.frozen?, h], by simp [World.frozen?, h], by simp [World.frozen?, h]⟩
theorem Fx3.new (w : World) (v0 v1 v2 : Value) (t : TypeId) : Fx3 (w.alloc (.cells #[v0, v1, v2] t)) w.heap.size := Fx3.of (heap_alloc_new w _)
theorem Fx3.keep {w w' : World} {b : Nat} (h : Fx3 w b) (hb : w'.heap[b]? = w.heap[b]?) : Fx3 w' b := by
  obtain ⟨h0, h1, h2⟩ := h
  simp only [World.frozen?] at h0 h1 h2
  exact ⟨by simp only [World.frozen?, hb]; exact h0, by simp only [World.frozen?, hb]; exact h1, by simp only [World.frozen?, hb]; exact h2⟩
theorem Bx3.same {w w' : World} {b : Nat} {v0 v1 v2 : Value} (h : Bx3 w b v0 v1 v2) (hb : w'.heap[b]? = w.heap[b]?) (hs : w.heap.size ≤ w'.heap.size) : Bx3 w' b v0 v1 v2 :=
  ⟨(World.cell?_of_block (a := ⟨b, 0, none⟩) hb).trans h.c0, (World.cell?_of_block (a := ⟨b, 1, none⟩) hb).trans h.c1, (World.cell?_of_block (a := ⟨b, 2, none⟩) hb).trans h.c2, Nat.lt_of_lt_of_le h.lt hs⟩

theorem textV_any (s : ByteArray) (w : World) (hlim : s.size ≤ 281474976710656) : Calls Try.prog 85 #[.string s] w fun e w' => e = .returned (.agg #[.int .i64 2, .int .i64 0, .string s]) ∧ Below w.heap.size w w' := by
  go_enter Try.func85, Try.ntmps85
  have HN := Lib.hid (Bx3.new w (.int .i64 0) (.int .i64 0) (.string ⟨#[]⟩) 31)
  have HF := Lib.hid (Fx3.new w (.int .i64 0) (.int .i64 0) (.string ⟨#[]⟩) 31)
  have HL := Lib.hid ((Below.refl _ w).alloc (Nat.le_refl _) (.cells #[.int .i64 0, .int .i64 0, .string ⟨#[]⟩] 31))
  go_wp2_with fail
  refine (clone_any s _ hlim).mono ?_
  rintro e w1 ⟨rfl, hb⟩
  have hbl := hb.block w.heap.size (by simp)
  obtain ⟨q0, q1, q2, _⟩ := HN.out.same hbl hb.size
  obtain ⟨f0, f1, f2⟩ := HF.out.keep hbl
  have hlow2 : Below w.heap.size w w1 := HL.out.trans (hb.mono (by simp))
  obtain ⟨A, hA⟩ : ∃ A, w.heap.size = A := ⟨_, rfl⟩
  rw [hA] at q0 q1 q2 f0 f1 f2 hlow2 ⊢
  have HA := Lib.hid hA
  clear hb hA HL HN HF hbl
  go_wp2_with fail
  refine bodyPost_ret (v := .agg #[.int .i64 2, .int .i64 0, .string s]) (by simp [results, Try.results85, go_sem, q0, q1, q2, f0, f1, f2]) rfl ⟨rfl, ?_⟩
  rw [HA.out]
  go_grown

theorem rdT_small (l : List UInt8) : (rdT l).1.size ≤ 256 := by
  have h := (beN1 l)
  unfold rdT bT
  show (List.toArray _).size ≤ 256
  simp only [List.size_toArray, List.length_take]
  omega
end Go.Proofs.Ytpoefcpgcojppaa

namespace Go.Proofs.Ytpoefcpgcojppaa
open Go.ChangeShapes Go.WideShapes Go.ChangeAt Go.RowKit
set_option linter.unusedVariables false

/-- the text's closure, too -/
structure Env2 (w : World) (B NX NB TX : Nat) : Prop where
  env : Env w B NX NB
  tx : w.cell? ⟨TX, 0, none⟩ = some (.func (.func 82) #[] #[.pointer (some ⟨NX, 0, none⟩), .pointer (some ⟨NB, 0, none⟩)])
  ht : TX ≠ B
  lt : TX < w.heap.size
theorem Env2.keep {w w' : World} {B NX NB TX : Nat} (h : Env2 w B NX NB TX) (hk : Keep (fun k => k ≠ B) w w') : Env2 w' B NX NB TX :=
  ⟨h.env.keep hk, (World.cell?_of_block (a := ⟨TX, 0, none⟩) (hk.block TX h.lt h.ht)).trans h.tx, h.ht, Nat.lt_of_lt_of_le h.lt hk.size⟩

def ValR (B : Nat) (l : List UInt8) (w : World) (e : Ending) (w' : World) : Prop := e = .returned (.agg #[.int .i64 (rdV l).1.1, .int .i64 (rdV l).1.2.1, .string (rdV l).1.2.2]) ∧ RdS w' B (rdV l).2 ∧ Keep (fun k => k ≠ B) w w'
theorem ret_agg3 {a b a' b' : Int} {c c' : ByteArray} (h : (a, b, c) = (a', b', c')) : Ending.returned (.agg #[.int .i64 a, .int .i64 b, .string c]) = .returned (.agg #[.int .i64 a', .int .i64 b', .string c']) := by
  injection h with h1 h2
  injection h2 with h2 h3
  subst h1 h2 h3
  rfl

set_option maxHeartbeats 2000000 in
set_option maxRecDepth 100000 in
theorem val_read {w : World} {B NX NB TX : Nat} {l : List UInt8} (h : RdS w B l) (he : Env2 w B NX NB TX) (hl : l.length ≤ 281474976710656) : Calls Try.prog 83 #[.pointer (some ⟨NB, 0, none⟩), .pointer (some ⟨TX, 0, none⟩)] w (ValR B l w) := by
  unfold ValR
  have hBlt := h.lt
  obtain ⟨q, hq⟩ : ∃ q : Int, beN (l.take 1) = q := ⟨_, rfl⟩
  have hq1 : 0 ≤ q ∧ q < 256 := by rw [← hq]; exact beN1 l
  -- the result's own block
  have HN := Lib.hid (Bx3.new w (.int .i64 0) (.int .i64 0) (.string ⟨#[]⟩) 31)
  have HF := Lib.hid (Fx3.new w (.int .i64 0) (.int .i64 0) (.string ⟨#[]⟩) 31)
  have hba : Below w.heap.size w (w.alloc (.cells #[.int .i64 0, .int .i64 0, .string ⟨#[]⟩] 31)) := (Below.refl _ w).alloc (Nat.le_refl _) _
  have HK0 := Lib.hid (keepB_below (B := B) hba)
  have HE0 := Lib.hid (he.keep HK0.out)
  have HR0 := Lib.hid (h.below hba)
  have hnum := number_any HR0.out HE0.out.env.nx 1 (by omega) hl
  unfold NumR at hnum
  rw [hq] at hnum
  have HV : Hid (rdV l = if q = 1 then ((1, beN ((l.drop 1).take 6) - 1099511627776, ⟨#[]⟩), (l.drop 1).drop 6) else if q = 2 then ((2, 0, (rdT (l.drop 1)).1), (rdT (l.drop 1)).2) else ((0, 0, ⟨#[]⟩), l.drop 1)) := by
    show _ = _
    unfold rdV
    rw [hq]
  have hl2 : (l.drop 1).length ≤ 281474976710656 := by rw [List.length_drop]; omega
  generalize l.drop 1 = D at hnum hl2 HV
  have FN := Lib.hid hnum
  obtain ⟨_, b0, _, _, _, _⟩ := HE0.out.env
  have hBne : w.heap.size ≠ B := by omega
  clear hnum hq h hl
  have hsA : w.heap.size < (w.alloc (.cells #[.int .i64 0, .int .i64 0, .string ⟨#[]⟩] 31)).heap.size := by simp
  have hQ : ∀ (w' : World), Keep (fun k => k ≠ B) (w.alloc (.cells #[.int .i64 0, .int .i64 0, .string ⟨#[]⟩] 31)) w' → Bx3 w' w.heap.size (.int .i64 0) (.int .i64 0) (.string ⟨#[]⟩) ∧ Fx3 w' w.heap.size ∧ Env2 w' B NX NB TX ∧ Keep (fun k => k ≠ B) w w' := fun w' hk => by
    have hb := hk.block w.heap.size hsA hBne
    exact ⟨HN.out.same hb hk.size, HF.out.keep hb, HE0.out.keep hk, keepB_trans HK0.out hk⟩
  have HQ := Lib.hid hQ
  clear hQ hba HN HF
  have hset : ∀ (w3 : World) (l' : List UInt8) (u0 u1 u2 : Value), RdS w3 B l' → Keep (fun k => k ≠ B) w w3 → RdS (((w3.setCell ⟨w.heap.size, 0, none⟩ u0).setCell ⟨w.heap.size, 1, none⟩ u1).setCell ⟨w.heap.size, 2, none⟩ u2) B l' ∧ Keep (fun k => k ≠ B) w (((w3.setCell ⟨w.heap.size, 0, none⟩ u0).setCell ⟨w.heap.size, 1, none⟩ u1).setCell ⟨w.heap.size, 2, none⟩ u2) := fun w3 l' u0 u1 u2 hr hk => by
    have hb : ∀ k, k ≠ w.heap.size → (((w3.setCell ⟨w.heap.size, 0, none⟩ u0).setCell ⟨w.heap.size, 1, none⟩ u1).setCell ⟨w.heap.size, 2, none⟩ u2).heap[k]? = w3.heap[k]? := fun k hk => by
      rw [Below.heap_setCell _ _ _ _ hk, Below.heap_setCell _ _ _ _ hk, Below.heap_setCell _ _ _ _ hk]
    have hK : Keep (fun k => k ≠ w.heap.size) w3 (((w3.setCell ⟨w.heap.size, 0, none⟩ u0).setCell ⟨w.heap.size, 1, none⟩ u1).setCell ⟨w.heap.size, 2, none⟩ u2) := ⟨rfl, rfl, rfl, by simp, fun k _ hk => hb k hk⟩
    exact ⟨hr.keep hK fun k hk => by omega, hk.trans hK fun k hk _ => by omega⟩
  have HSET := Lib.hid hset
  clear hset
  obtain ⟨A, hA⟩ : ∃ A, w.heap.size = A := ⟨_, rfl⟩
  by_cases h1 : q = 1
  · subst h1
    have HVV : Hid (rdV l = ((1, beN (D.take 6) - 1099511627776, ⟨#[]⟩), D.drop 6)) := by
      show _ = _
      rw [HV.out, if_pos rfl]
    go_enter Try.func83, Try.ntmps83
    go_wp2_with fail
    refine FN.out.mono ?_
    clear FN
    rintro e w1 ⟨rfl, r1, k1⟩
    obtain ⟨_, _, e1, _⟩ := HQ.out w1 k1
    have HK1 := Lib.hid k1
    have F6 := Lib.hid (number_any r1 e1.env.nx 6 (by omega) hl2)
    obtain ⟨_, d0, _, _, _, _⟩ := e1.env
    have hb6 := (beN_bound (D.take 6)).1
    have hb7 := beN_small (l := D.take 6) (by rw [List.length_take]; omega)
    unfold NumR at F6
    obtain ⟨x, hx⟩ : ∃ x, beN (D.take 6) = x := ⟨_, rfl⟩
    rw [hx] at F6 hb6 hb7 HVV
    have hwr : IntKind.i64.wrap (x - 1099511627776) = x - 1099511627776 := by rw [IntKind.wrap_i64]; omega
    clear r1 k1 e1 b0 hx
    generalize w.alloc (.cells #[.int .i64 0, .int .i64 0, .string ⟨#[]⟩] 31) = wa at *
    go_wp2_with (first
      | (go_at_call 81; refine F6.out.mono ?_; clear F6; rintro e w2 ⟨rfl, r2, k2⟩; have HK2 := Lib.hid (And.intro r2 (keepB_trans HK1.out k2)); clear r2 k2)
      | (go_at_call 84; refine (num_any _ _).mono ?_; rintro e w3 ⟨rfl, k3⟩; have HR3 := Lib.hid (HK2.out.1.below k3); obtain ⟨p0, p1, p2, p3⟩ := HQ.out w3 (keepB_trans HK2.out.2 (keepB_below k3)); rw [hA] at p0 p1; obtain ⟨q0, q1, q2, _⟩ := p0; obtain ⟨f0, f1, f2⟩ := p1; have HP3 := Lib.hid p3; clear p2 p3 k3))
    have HS := HSET.out w3 _ (.int .i64 1) (.int .i64 (x - 1099511627776)) (.string ⟨#[]⟩) HR3.out HP3.out
    rw [hA] at HS
    exact bodyPost_ret (v := .agg #[.int .i64 1, .int .i64 (x - 1099511627776), .string ⟨#[]⟩]) (by simp [results, Try.results83, go_sem, q0, q1, q2, f0, f1, f2]) rfl ⟨ret_agg3 (by rw [HVV.out]), by rw [HVV.out]; exact HS.1, HS.2⟩
  · by_cases h2 : q = 2
    · subst h2
      have HVV : Hid (rdV l = ((2, 0, (rdT D).1), (rdT D).2)) := by
        show _ = _
        rw [HV.out, if_neg (by decide), if_pos rfl]
      clear h1
      go_enter Try.func83, Try.ntmps83
      go_wp2_with fail
      refine FN.out.mono ?_
      clear FN
      rintro e w1 ⟨rfl, r1, k1⟩
      obtain ⟨_, _, e1, _⟩ := HQ.out w1 k1
      have HK1 := Lib.hid k1
      have FT := Lib.hid (text_read r1 e1.env hl2)
      have d0 := e1.tx
      have hts := rdT_small D
      unfold TextR at FT
      generalize (rdT D).1 = x at FT HVV hts
      generalize (rdT D).2 = D2 at FT HVV
      clear r1 k1 e1 b0
      generalize w.alloc (.cells #[.int .i64 0, .int .i64 0, .string ⟨#[]⟩] 31) = wa at *
      go_wp2_with (first
        | (go_at_call 82; refine FT.out.mono ?_; clear FT; rintro e w2 ⟨rfl, r2, k2⟩; have HK2 := Lib.hid (And.intro r2 (keepB_trans HK1.out k2)); clear r2 k2)
        | (go_at_call 85; refine (textV_any _ _ (by omega)).mono ?_; rintro e w3 ⟨rfl, k3⟩; have HR3 := Lib.hid (HK2.out.1.below k3); obtain ⟨p0, p1, p2, p3⟩ := HQ.out w3 (keepB_trans HK2.out.2 (keepB_below k3)); rw [hA] at p0 p1; obtain ⟨q0, q1, q2, _⟩ := p0; obtain ⟨f0, f1, f2⟩ := p1; have HP3 := Lib.hid p3; clear p2 p3 k3))
      have HS := HSET.out w3 _ (.int .i64 2) (.int .i64 0) (.string x) HR3.out HP3.out
      rw [hA] at HS
      exact bodyPost_ret (v := .agg #[.int .i64 2, .int .i64 0, .string x]) (by simp [results, Try.results83, go_sem, q0, q1, q2, f0, f1, f2]) rfl ⟨ret_agg3 (by rw [HVV.out]), by rw [HVV.out]; exact HS.1, HS.2⟩
    · have h1' : (q == 1) = false := by simpa using h1
      have h2' : (q == 2) = false := by simpa using h2
      have HVV : Hid (rdV l = ((0, 0, ⟨#[]⟩), D)) := by
        show _ = _
        rw [HV.out, if_neg h1, if_neg h2]
      clear h1 h2
      go_enter Try.func83, Try.ntmps83
      go_wp2_with fail
      refine FN.out.mono ?_
      clear FN
      rintro e w3 ⟨rfl, r1, k1⟩
      have HR3 := Lib.hid r1
      obtain ⟨p0, p1, _, p3⟩ := HQ.out w3 k1
      rw [hA] at p0 p1
      obtain ⟨q0, q1, q2, _⟩ := p0
      obtain ⟨f0, f1, f2⟩ := p1
      have HP3 := Lib.hid p3
      clear r1 k1 b0 p3
      generalize w.alloc (.cells #[.int .i64 0, .int .i64 0, .string ⟨#[]⟩] 31) = wa at *
      go_wp2_with fail
      have HS := HSET.out w3 _ (.int .i64 0) (.int .i64 0) (.string ⟨#[]⟩) HR3.out HP3.out
      rw [hA] at HS
      exact bodyPost_ret (v := .agg #[.int .i64 0, .int .i64 0, .string ⟨#[]⟩]) (by simp [results, Try.results83, go_sem, q0, q1, q2, f0, f1, f2]) rfl ⟨ret_agg3 (by rw [HVV.out]), by rw [HVV.out]; exact HS.1, HS.2⟩
end Go.Proofs.Ytpoefcpgcojppaa
