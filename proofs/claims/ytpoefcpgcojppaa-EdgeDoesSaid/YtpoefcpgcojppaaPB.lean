/- Walks of what tells whether props, edges are right: the program's. -/
import Derived.Test.YtpoefcpgcojppaaPA
import Derived.BigQuiet
namespace Go.Proofs.Ytpoefcpgcojppaa
open Go.ChangeShapes Go.WideShapes Go.ChangeAt Go.RowKit
set_option linter.unusedVariables false

/-- sizes that a memory has -/
def SzP (l : List Pt) : Prop := l.length ≤ 281474976710656 ∧ ∀ p ∈ l, p.1.size ≤ 281474976710656 ∧ p.2.2.2.size ≤ 281474976710656
def SzE (e : Ed) : Prop := e.src.size ≤ 281474976710656 ∧ e.dst.size ≤ 281474976710656 ∧ e.lab.size ≤ 281474976710656 ∧ SzP e.props
theorem below_gr {w w' : World} (h : Gr w w') : Below w.heap.size w w' := h.below
theorem mixed : Try.prog.follows .mixedOrders = true := by kernel_rfl
theorem le_max {n : Nat} (h : n ≤ 281474976710656) : n ≤ maxLen := by unfold maxLen; omega

def PropsR (l : List Pt) (w : World) (e : Ending) (w' : World) : Prop := e = .returned (.bool (areB l)) ∧ Below w.heap.size w w'

set_option maxHeartbeats 4000000 in
theorem areProps_any {w : World} {v : Value} {l : List Pt} (h : PR w v l) (hs : SzP l) : Calls Try.prog 45 #[v] w (PropsR l w) := by
  have H := Lib.hid h
  have HS := Lib.hid hs
  obtain ⟨A, c, rfl⟩ := h.form
  obtain ⟨n, hN⟩ : ∃ n, l.length = n := ⟨_, rfl⟩
  have HN := Lib.hid hN
  have hn : n ≤ 281474976710656 := by rw [← hN]; exact hs.1
  unfold PropsR
  rw [hN] at H ⊢
  clear hN hs h
  by_cases h8 : n ≤ 8
  · have HB : ¬ areP l → Hid (areB l = false) := fun h => areB_not l h
    have HBY : areP l → Hid (areB l = true) := fun h => (areB_iff l).2 h
    go_enter Try.func45, Try.ntmps45
    go_wp2_with fail
    go_loopw [11] (fun i wr => ∃ k : Nat, k ≤ n ∧ i = .int .i64 k ∧ (∀ j (hj : j < l.length), j < k → okAt l j hj) ∧ Below w.heap.size w wr) (fun i _ => n - (Lib.intOf i).toNat)
    case atStart => exact ⟨0, Nat.zero_le _, rfl, fun j _ h => absurd h (Nat.not_lt_zero j), Below.refl _ _⟩
    case round =>
      obtain ⟨k, hk, rfl, ha, hb⟩ := hrel
      have HA := Lib.hid ha
      have HBW := Lib.hid hb
      clear ha hb
      by_cases hlt : k < n
      · have e1 : k < l.length := by rw [HN.out]; exact hlt
        obtain ⟨ad, f1, hab, q0, q1, q2, q3⟩ := PR.at4 (H.out.below HBW.out) e1
        subst f1
        have hsz := HS.out.2 l[k] (List.getElem_mem e1)
        obtain ⟨p, hp⟩ : ∃ p, l[k] = p := ⟨_, rfl⟩
        rw [hp] at q0 q1 q2 q3 hsz
        have HX := Lib.hid hp
        clear hp
        obtain ⟨key, kd, nm, tx⟩ := p
        simp only at q0 q1 q2 q3 hsz
        -- the text ahead
        have hprev : ∃ (r : Bool) (pk : ByteArray), (0 < k → wr.cell? (ad.add ((k - 1) * 4)) = some (.string pk)) ∧ Op.bytesLess pk.toList key.toList = r ∧ Hid ((k = 0 ∨ r = true) ↔ (0 < k → cmpB (l[k - 1]'(by omega)).1 (l[k]'e1).1 = -1)) := by
          by_cases h0 : 0 < k
          · have e0 : k - 1 < l.length := by omega
            obtain ⟨ad', f1, _, p0, _⟩ := PR.at4 (H.out.below HBW.out) e0
            injection f1 with f1
            subst f1
            refine ⟨_, l[k - 1].1, fun _ => p0, rfl, ?_⟩
            have hx : (l[k]'e1).1 = key := by rw [HX.out]
            rw [hx, blessB]
            show _ ↔ _
            constructor
            · rintro (h | h)
              · omega
              · exact fun _ => of_decide_eq_true h
            · exact fun h => .inr (decide_eq_true (h h0))
          · exact ⟨_, key, fun h => absurd h h0, rfl, show _ ↔ _ from ⟨fun _ h => absurd h h0, fun _ => .inl (by omega)⟩⟩
        obtain ⟨r, pk, hpk, hr, HR⟩ := hprev
        have hf := fun W => free_any key W (le_max hsz.1)
        have hv := fun W => right_any (kd, nm, tx) W hsz.2
        unfold RightR at hv
        simp only at hv
        obtain ⟨fb, hfb⟩ : ∃ b, freB key = b := ⟨_, rfl⟩
        obtain ⟨vb, hvb⟩ : ∃ b, rightV (kd, nm, tx) = b := ⟨_, rfl⟩
        rw [hfb] at hf
        rw [hvb] at hv
        have HFV := Lib.hid (And.intro hfb hvb)
        have HF := Lib.hid hf
        have HV := Lib.hid hv
        clear hf hv hfb hvb hsz
        have hq : ∀ n, (wr.drewN n).cell? (ad.add (k * 4)) = some (.string key) := fun _ => q0
        -- what it comes to
        have HOK : Hid (okAt l k e1 ↔ (k = 0 ∨ r = true) ∧ fb = true ∧ vb = true) := by
          show _ ↔ _
          unfold okAt
          rw [← HR.out]
          have hx1 : (l[k]'e1).1 = key := by rw [HX.out]
          have hx2 : (l[k]'e1).2 = (kd, nm, tx) := by rw [HX.out]
          rw [hx1, hx2, HFV.out.1, HFV.out.2]
          constructor
          · rintro ⟨a, b, c⟩; exact ⟨c, a, b⟩
          · rintro ⟨c, a, b⟩; exact ⟨a, b, c⟩
        have HGO : okAt l k e1 → Hid (∀ j (hj : j < l.length), j < k + 1 → okAt l j hj) := fun hok => show ∀ j (hj : j < l.length), j < k + 1 → okAt l j hj from fun j hj hjk => by
          by_cases he : j = k
          · subst he; exact hok
          · exact HA.out j hj (by omega)
        have HNO : ¬ okAt l k e1 → Hid (areB l = false) := fun hno => HB fun hp => hno (hp.2 k e1)
        by_cases h0 : 0 < k
        · have hp0 := hpk h0
          have hk1 : IntKind.i64.wrap ((k : Int) - 1) = ((k - 1 : Nat) : Int) := by rw [IntKind.wrap_i64]; omega
          have hk2 : ((k : Int) - 1).toNat = k - 1 := by omega
          have hk3 : ((k : Int) == 0) = false := by rw [beq_eq_false_iff_ne]; omega
          have hk5 : ((k - 1 : Nat) : Int) < (n : Int) := by omega
          have hk6 : k - 1 < n := by omega
          have hp1 : (wr.alloc (.cells #[.string key, .int .i64 kd, .int .i64 nm, .string tx] 53)).cell? (ad.add ((k - 1) * 4)) = some (.string pk) := ((Below.refl _ wr).alloc (Nat.le_refl _) _).cell (p := ad.add ((k - 1) * 4)) (by rw [block_add]; exact hab) |>.trans hp0
          clear hpk
          go_upto_region 6 with (fail)
          go_quiet (fail)
          have hbx : (wr.alloc (.cells #[.string key, .int .i64 kd, .int .i64 nm, .string tx] 53)).heap[wr.heap.size]? = some (.cells #[.string key, .int .i64 kd, .int .i64 nm, .string tx] 53 (0, 0)) := heap_alloc_new wr _
          have hbx' : ((wr.alloc (.cells #[.string key, .int .i64 kd, .int .i64 nm, .string tx] 53)).drewN nq).heap[wr.heap.size]? = some (.cells #[.string key, .int .i64 kd, .int .i64 nm, .string tx] 53 (0, 0)) := hbx
          have c0 := cell_of_row _ _ 0 _ 53 (0, 0) hbx'
          have c1 := cell_of_row _ _ 1 _ 53 (0, 0) hbx'
          have c2 := cell_of_row _ _ 2 _ 53 (0, 0) hbx'
          have c3 := cell_of_row _ _ 3 _ 53 (0, 0) hbx'
          have HW := Lib.hid (show Below w.heap.size w ((wr.alloc (.cells #[.string key, .int .i64 kd, .int .i64 nm, .string tx] 53)).drewN nq) ∧ wr.heap.size < ((wr.alloc (.cells #[.string key, .int .i64 kd, .int .i64 nm, .string tx] 53)).drewN nq).heap.size from ⟨(HBW.out.alloc HBW.out.size _).trans ⟨rfl, rfl, rfl, Nat.le_refl _, fun _ _ => rfl⟩, by show wr.heap.size < (wr.alloc _).heap.size; simp⟩)
          clear hbx hbx' q0 q1 q2 q3 hq
          generalize (wr.alloc (.cells #[.string key, .int .i64 kd, .int .i64 nm, .string tx] 53)).drewN nq = WT at *
          generalize wr.heap.size = B at *
          cases r with
          | false =>
            have HE := HNO (fun h => by have := (HOK.out.1 h).1; simp at this; omega)
            go_wp2_with fail
            go_ret
            exact ⟨ret_bool HE.out.symm, HW.out.1⟩
          | true =>
            cases fb with
            | false =>
              have HE := HNO (fun h => by have := (HOK.out.1 h).2.1; simp at this)
              go_wp2_with (go_at_call 44; refine (HF.out _).mono ?_; clear HF; rintro e w1 ⟨rfl, hb1⟩)
              go_ret
              exact ⟨ret_bool HE.out.symm, HW.out.1.trans (hb1.mono HW.out.1.size)⟩
            | true =>
              cases vb with
              | false =>
                have HE := HNO (fun h => by have := (HOK.out.1 h).2.2; simp at this)
                go_wp2_with (first | (go_at_call 44; refine (HF.out _).mono ?_; clear HF; rintro e w1 ⟨rfl, hb1⟩; have d1 := (hb1.cell (p := ⟨B, 1, none⟩) HW.out.2).trans c1; have d2 := (hb1.cell (p := ⟨B, 2, none⟩) HW.out.2).trans c2; have d3 := (hb1.cell (p := ⟨B, 3, none⟩) HW.out.2).trans c3) | (go_at_call 73; refine (HV.out _).mono ?_; rintro e w2 ⟨rfl, hb2⟩))
                go_ret
                exact ⟨ret_bool HE.out.symm, (HW.out.1.trans (hb1.mono HW.out.1.size)).trans (hb2.below.mono (Nat.le_trans HW.out.1.size hb1.size))⟩
              | true =>
                have HE := HGO (HOK.out.2 ⟨.inr rfl, rfl, rfl⟩)
                go_wp2_with (first | (go_at_call 44; refine (HF.out _).mono ?_; clear HF; rintro e w1 ⟨rfl, hb1⟩; have d1 := (hb1.cell (p := ⟨B, 1, none⟩) HW.out.2).trans c1; have d2 := (hb1.cell (p := ⟨B, 2, none⟩) HW.out.2).trans c2; have d3 := (hb1.cell (p := ⟨B, 3, none⟩) HW.out.2).trans c3) | (go_at_call 73; refine (HV.out _).mono ?_; rintro e w2 ⟨rfl, hb2⟩))
                go_roundw
                case rel => exact ⟨k + 1, by omega, by go_num, HE.out, (HW.out.1.trans (hb1.mono HW.out.1.size)).trans (hb2.below.mono (Nat.le_trans HW.out.1.size hb1.size))⟩
                case measure => simp [Lib.intOf]; omega
        · obtain rfl : k = 0 := by omega
          have had : ad.add (0 * 4) = ad := by simp [Addr.add]
          rw [had] at q0 q1 q2 q3
          have HZ := Lib.hid (show (0 : Nat) = 0 from rfl)
          clear hpk h0 had hq
          go_upto_region 6 with (fail)
          go_quiet (fail)
          have hbx : (wr.alloc (.cells #[.string key, .int .i64 kd, .int .i64 nm, .string tx] 53)).heap[wr.heap.size]? = some (.cells #[.string key, .int .i64 kd, .int .i64 nm, .string tx] 53 (0, 0)) := heap_alloc_new wr _
          have hbx' : ((wr.alloc (.cells #[.string key, .int .i64 kd, .int .i64 nm, .string tx] 53)).drewN nq).heap[wr.heap.size]? = some (.cells #[.string key, .int .i64 kd, .int .i64 nm, .string tx] 53 (0, 0)) := hbx
          have c0 := cell_of_row _ _ 0 _ 53 (0, 0) hbx'
          have c1 := cell_of_row _ _ 1 _ 53 (0, 0) hbx'
          have c2 := cell_of_row _ _ 2 _ 53 (0, 0) hbx'
          have c3 := cell_of_row _ _ 3 _ 53 (0, 0) hbx'
          have HW := Lib.hid (show Below w.heap.size w ((wr.alloc (.cells #[.string key, .int .i64 kd, .int .i64 nm, .string tx] 53)).drewN nq) ∧ wr.heap.size < ((wr.alloc (.cells #[.string key, .int .i64 kd, .int .i64 nm, .string tx] 53)).drewN nq).heap.size from ⟨(HBW.out.alloc HBW.out.size _).trans ⟨rfl, rfl, rfl, Nat.le_refl _, fun _ _ => rfl⟩, by show wr.heap.size < (wr.alloc _).heap.size; simp⟩)
          clear hbx hbx' q0 q1 q2 q3
          generalize (wr.alloc (.cells #[.string key, .int .i64 kd, .int .i64 nm, .string tx] 53)).drewN nq = WT at *
          generalize wr.heap.size = B at *
          cases fb with
          | false =>
            have HE := HNO (fun h => by have := (HOK.out.1 h).2.1; simp at this)
            go_wp2_with (go_at_call 44; refine (HF.out _).mono ?_; clear HF; rintro e w1 ⟨rfl, hb1⟩)
            go_ret
            exact ⟨ret_bool HE.out.symm, HW.out.1.trans (hb1.mono HW.out.1.size)⟩
          | true =>
            cases vb with
            | false =>
              have HE := HNO (fun h => by have := (HOK.out.1 h).2.2; simp at this)
              go_wp2_with (first | (go_at_call 44; refine (HF.out _).mono ?_; clear HF; rintro e w1 ⟨rfl, hb1⟩; have d1 := (hb1.cell (p := ⟨B, 1, none⟩) HW.out.2).trans c1; have d2 := (hb1.cell (p := ⟨B, 2, none⟩) HW.out.2).trans c2; have d3 := (hb1.cell (p := ⟨B, 3, none⟩) HW.out.2).trans c3) | (go_at_call 73; refine (HV.out _).mono ?_; rintro e w2 ⟨rfl, hb2⟩))
              go_ret
              exact ⟨ret_bool HE.out.symm, (HW.out.1.trans (hb1.mono HW.out.1.size)).trans (hb2.below.mono (Nat.le_trans HW.out.1.size hb1.size))⟩
            | true =>
              have HE := HGO (HOK.out.2 ⟨.inl HZ.out, rfl, rfl⟩)
              go_wp2_with (first | (go_at_call 44; refine (HF.out _).mono ?_; clear HF; rintro e w1 ⟨rfl, hb1⟩; have d1 := (hb1.cell (p := ⟨B, 1, none⟩) HW.out.2).trans c1; have d2 := (hb1.cell (p := ⟨B, 2, none⟩) HW.out.2).trans c2; have d3 := (hb1.cell (p := ⟨B, 3, none⟩) HW.out.2).trans c3) | (go_at_call 73; refine (HV.out _).mono ?_; rintro e w2 ⟨rfl, hb2⟩))
              go_roundw
              case rel => exact ⟨1, by omega, by go_num, HE.out, (HW.out.1.trans (hb1.mono HW.out.1.size)).trans (hb2.below.mono (Nat.le_trans HW.out.1.size hb1.size))⟩
              case measure => simp [Lib.intOf]; omega
      · obtain rfl : k = n := by omega
        have HE := HBY ⟨by rw [HN.out]; exact h8, fun j hj => HA.out j hj (by rw [← HN.out]; exact hj)⟩
        go_wp2_with fail
        go_ret
        exact ⟨ret_bool HE.out.symm, HBW.out⟩
  · have HE := Lib.hid (areB_not l (fun h => h8 (by rw [← HN.out]; exact h.1)))
    go_enter Try.func45, Try.ntmps45
    go_wp2_with fail
    go_ret
    exact ⟨ret_bool HE.out.symm, Below.refl _ _⟩
end Go.Proofs.Ytpoefcpgcojppaa
