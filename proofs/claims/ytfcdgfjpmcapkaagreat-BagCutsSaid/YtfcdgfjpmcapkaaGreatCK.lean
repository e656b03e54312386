/- The law's row of greatest ends. -/
import Derived.Test.YtfcdgfjpmcapkaaGreatCJ
import Derived.Test.YtfcdgfjpmcapkaaGreatCL
import Derived.BigQuiet
import Derived.StillTailTactics
import Derived.Test.YtfcdgfjpmcapkaaGreatDA
import Derived.Lib.MinMax
namespace Go.Proofs.YtfcdgfjpmcapkaaGreat
open Go.ChangeShapes Go.WideShapes Go.ChangeAt Go.RowKit Go.Maps Go.Shelf
set_option linter.unusedVariables false

/-- is the i-th of a row the first of its key and value, as far as the first q go? -/
def fstQ (l : List Et) (i q : Nat) : Bool := (l.take (min q i)).all fun z => !sp z (ge l i)
/-- the greatest end of the i-th's key and value, as far as the first q go -/
def topQ (l : List Et) (i q : Nat) : Int := (l.take q).foldl (fun m z => if sp z (ge l i) then max m z.2.2 else m) (ge l i).2.2
theorem fstQ_zero (l : List Et) (i : Nat) : fstQ l i 0 = true := by simp [fstQ]
theorem topQ_zero (l : List Et) (i : Nat) : topQ l i 0 = (ge l i).2.2 := by simp [topQ]
theorem take_all {l : List Et} {q : Nat} (hq : q < l.length) (p : Et → Bool) : (l.take (q + 1)).all p = ((l.take q).all p && p (ge l q)) := by
  rw [List.take_succ_eq_append_getElem hq, ← ge_get hq, List.all_append]
  simp
theorem fstQ_yes {l : List Et} {i q : Nat} (hq : q < l.length) (h : sp (ge l q) (ge l i) = true) : fstQ l i (q + 1) = (fstQ l i q && decide (i ≤ q)) := by
  unfold fstQ
  by_cases hi : i ≤ q
  · rw [Nat.min_eq_right (by omega), Nat.min_eq_right hi]
    simp [hi]
  · rw [Nat.min_eq_left (by omega), Nat.min_eq_left (by omega), take_all hq, h]
    simp [hi]
theorem fstQ_no {l : List Et} {i q : Nat} (hq : q < l.length) (h : sp (ge l q) (ge l i) = false) : fstQ l i (q + 1) = fstQ l i q := by
  unfold fstQ
  by_cases hi : i ≤ q
  · rw [Nat.min_eq_right (by omega), Nat.min_eq_right hi]
  · rw [Nat.min_eq_left (by omega), Nat.min_eq_left (by omega), take_all hq, h]
    simp
theorem topQ_succ {l : List Et} {i q : Nat} (hq : q < l.length) : topQ l i (q + 1) = if sp (ge l q) (ge l i) then max (topQ l i q) (ge l q).2.2 else topQ l i q := by
  unfold topQ
  rw [List.take_succ_eq_append_getElem hq, ← ge_get hq, List.foldl_append]
  rfl
theorem fstQ_all {l : List Et} {i n : Nat} (hn : l.length = n) (hi : i ≤ n) : fstQ l i n = fst1 l i := by
  unfold fstQ fst1
  rw [Nat.min_eq_right (by omega)]
theorem topQ_all {l : List Et} {i n : Nat} (hn : l.length = n) : topQ l i n = topOf l (ge l i) := by
  unfold topQ topOf
  rw [List.take_of_length_le (by omega)]
theorem topQ_wf {l : List Et} (h : ∀ k, k < l.length → We (ge l k)) {i : Nat} (hi : i < l.length) : ∀ q, q ≤ l.length → (Lit.int .i64 (topQ l i q)).wf = true
  | 0, _ => by rw [topQ_zero]; exact (h i hi).2.2
  | q + 1, hq => by
    rw [topQ_succ (by omega)]
    have h1 := topQ_wf h hi q (by omega)
    have h2 := (h q (by omega)).2.2
    split
    · rcases Int.le_total (topQ l i q) (ge l q).2.2 with hle | hle
      · rw [Int.max_eq_right hle]; exact h2
      · rw [Int.max_eq_left hle]; exact h1
    · exact h1
theorem endsN_len (l : List Et) (c : Int) : ∀ n, (endsN l c n).length ≤ n
  | 0 => by simp [endsN]
  | n + 1 => by
    have := endsN_len l c n
    unfold endsN
    rw [List.length_append]
    split <;> simp <;> omega

/-- the box of an entry -/
def BxE (W : World) (B : Nat) (x : Et) : Prop := W.heap[B]? = some (.cells #[.string x.1, .int .i64 x.2.1, .int .i64 x.2.2] 38 (0, 0))
theorem BxE.cells {W : World} {B : Nat} {x : Et} (h : BxE W B x) : W.cell? ⟨B, 0, none⟩ = some (.string x.1) ∧ W.cell? ⟨B, 1, none⟩ = some (.int .i64 x.2.1) ∧ W.cell? ⟨B, 2, none⟩ = some (.int .i64 x.2.2) ∧ W.frozen? ⟨B, 2, none⟩ = false := by
  unfold BxE at h
  refine ⟨by simp [World.cell?, h], by simp [World.cell?, h], by simp [World.cell?, h], by simp [World.frozen?, h]⟩
theorem BxE.lt {W : World} {B : Nat} {x : Et} (h : BxE W B x) : B < W.heap.size := (Array.getElem?_eq_some_iff.1 h).1
theorem BxE.set {W : World} {B : Nat} {x : Et} (h : BxE W B x) (z : Int) : BxE (W.setCell ⟨B, 2, none⟩ (.int .i64 z)) B (x.1, x.2.1, z) := by
  unfold BxE at *
  simp [World.setCell, Array.getElem?_modify, h]
theorem BxE.new (W : World) (x : Et) : BxE (W.alloc (.cells #[.string x.1, .int .i64 x.2.1, .int .i64 x.2.2] 38)) W.heap.size x := heap_alloc_new W _

def EndsR (l : List Et) (c : Int) (w : World) (e : Ending) (w' : World) : Prop := ∃ v, e = .returned v ∧ w'.ownsRow w.heap.size 38 3 v (endsL l c).length (flatE (endsL l c)) ∧ Below w.heap.size w w'

/-- what lies where in the inner loop -/
structure EnI (w : World) (l : List Et) (v : Value) (m : Nat) (xs : List Value) (X q r : Nat) (ws : World) : Prop where
  bx : BxE ws X ((ge l q).1, (ge l q).2.1, topQ l q r)
  row : ws.ownsRow w.heap.size 38 3 v m xs
  be : Below w.heap.size w ws
theorem EnI.drew {w : World} {l : List Et} {v : Value} {m : Nat} {xs : List Value} {X q r k : Nat} {ws : World} (h : EnI w l v m xs X q r ws) : EnI w l v m xs X q r (ws.drewN k) :=
  ⟨h.bx, own_keep h.row (p := fun _ => True) (Keep.of_below ⟨rfl, rfl, rfl, Nat.le_refl _, fun _ _ => rfl⟩) (fun _ _ => trivial), h.be.trans ⟨rfl, rfl, rfl, Nat.le_refl _, fun _ _ => rfl⟩⟩
theorem EnI.skip {w : World} {l : List Et} {v : Value} {m : Nat} {xs : List Value} {X q r : Nat} {ws : World} (h : EnI w l v m xs X q r ws) (hr : r < l.length) (hs : sp (ge l r) (ge l q) = false) : EnI w l v m xs X q (r + 1) ws :=
  ⟨by rw [topQ_succ hr, if_neg (by rw [hs]; simp)]; exact h.bx, h.row, h.be⟩

theorem EnI.drew1 {w : World} {l : List Et} {v : Value} {m : Nat} {xs : List Value} {X q r : Nat} {ws : World} {a : Addr} {u : Value} (h : EnI w l v m xs X q r (ws.setCell a u)) : EnI w l v m xs X q r (ws.drew.setCell a u) :=
  ⟨h.bx, own_keep h.row (p := fun _ => True) (Keep.of_below ⟨rfl, rfl, rfl, Nat.le_refl _, fun _ _ => rfl⟩) (fun _ _ => trivial), h.be.trans ⟨rfl, rfl, rfl, Nat.le_refl _, fun _ _ => rfl⟩⟩
theorem EnI.max {w : World} {l : List Et} {v : Value} {m : Nat} {xs : List Value} {X q r : Nat} {ws : World} (h : EnI w l v m xs X q r ws) (hr : r < l.length) (hs : sp (ge l r) (ge l q) = true) (hX : w.heap.size ≤ X) (hv : ∀ g, v.ownBlock = some g → g ≠ X) : EnI w l v m xs X q (r + 1) (ws.setCell ⟨X, 2, none⟩ (.int .i64 (max (topQ l q r) (ge l r).2.2))) :=
  ⟨by rw [topQ_succ hr, if_pos hs]; exact h.bx.set _, own_keep h.row (p := fun k => k ≠ X) (Keep.setCell (Keep.refl _ _) _ _ fun i _ hp => hp) hv, h.be.setCell (p := ⟨X, 2, none⟩) hX _⟩

set_option maxRecDepth 100000 in
set_option maxHeartbeats 4000000 in
theorem ends_any {w : World} {v : Value} {l : List Et} (h : PE w v l) (hl : l.length ≤ 1000000) (c : Int) : Calls Tryz.prog 28 #[v, .int .i64 c] w (EndsR l c w) := by
  obtain ⟨i0, hi, hz0, hz1, hz2⟩ := info_parts info38
  have H := Lib.hid h
  obtain ⟨A, c0, rfl, _⟩ := h
  obtain ⟨n, hn⟩ : ∃ n, l.length = n := ⟨_, rfl⟩
  have HN := Lib.hid hn
  rw [hn] at H hl
  rw [hn]
  clear hn
  go_enter Tryz.func28, Tryz.ntmps28
  go_wp2_with fail
  go_loopw [5, 6] (fun o i wr => ∃ q : Nat, q ≤ n ∧ i = .int .i64 q ∧ wr.ownsRow w.heap.size 38 3 o (endsN l c q).length (flatE (endsN l c q)) ∧ Below w.heap.size w wr) (fun _ i _ => n - (intOf i).toNat)
  case atStart => exact ⟨0, Nat.zero_le _, rfl, World.ownsRow_nil _ _ _ _, Below.refl _ _⟩
  case round =>
    obtain ⟨q, hq, rfl, hrow, hb⟩ := hrel
    obtain ⟨Ao, co, rfl, _⟩ := row_form hrow
    have HB := Lib.hid hb
    have HROW := Lib.hid hrow
    have hel := endsN_len l c q
    obtain ⟨m, hm⟩ : ∃ m, (endsN l c q).length = m := ⟨_, rfl⟩
    rw [hm] at HROW hel
    rw [hm]
    have HM := Lib.hid hm
    clear hb hrow hm
    by_cases hlt : q < n
    · obtain ⟨ad, e1, _, x0, x1, x2⟩ := PE.at3 (H.out.below HB.out) (k := q) (by rw [HN.out]; exact hlt)
      subst e1
      obtain ⟨x, hx⟩ : ∃ x, ge l q = x := ⟨_, rfl⟩
      rw [hx] at x0 x1 x2
      have HX := Lib.hid hx
      have hbw : Below w.heap.size w (wr.alloc (.cells #[.string x.1, .int .i64 x.2.1, .int .i64 x.2.2] 38)) := HB.out.alloc HB.out.size _
      have hei : EnI w l (.slice Ao m co) m (flatE (endsN l c q)) wr.heap.size q 0 (wr.alloc (.cells #[.string x.1, .int .i64 x.2.1, .int .i64 x.2.2] 38)) :=
        ⟨by rw [topQ_zero, hx]; exact BxE.new wr x, HROW.out.alloc _, hbw⟩
      have hbl : w.heap.size ≤ wr.heap.size := HB.out.size
      have hro : ∀ g, (Value.slice Ao m co).ownBlock = some g → g < wr.heap.size := fun g e => (HROW.out.lt g e).2
      have HEI := Lib.hid hei
      have HBL := Lib.hid hbl
      have HRO := Lib.hid hro
      clear hx hbw hei hbl hro
      go_wp2_with fail
      obtain ⟨X, hX⟩ : ∃ X, wr.heap.size = X := ⟨_, rfl⟩
      obtain ⟨W0, hW0⟩ : ∃ W0, wr.alloc (.cells #[.string x.1, .int .i64 x.2.1, .int .i64 x.2.2] 38) = W0 := ⟨_, rfl⟩
      rw [hX] at HEI HBL HRO ⊢
      rw [hW0] at HEI ⊢
      clear hX hW0 x0 x1 x2
      go_loopw [8, 9] (fun f k ws => ∃ r : Nat, r ≤ n ∧ k = .int .i64 r ∧ f = .bool (fstQ l q r) ∧ EnI w l (.slice Ao m co) m (flatE (endsN l c q)) X q r ws) (fun _ k _ => n - (intOf k).toNat)
      case atStart => exact ⟨0, Nat.zero_le _, rfl, by rw [fstQ_zero], HEI.out⟩
      case round =>
        obtain ⟨r, hr, rfl, rfl, hin⟩ := hrel
        have HIN := Lib.hid hin
        obtain ⟨b0, b1, b2, b3⟩ := hin.bx.cells
        rw [HX.out] at b0 b1
        obtain ⟨t, ht⟩ : ∃ t, topQ l q r = t := ⟨_, rfl⟩
        rw [ht] at b2
        have HT := Lib.hid ht
        obtain ⟨f, hf⟩ : ∃ f, fstQ l q r = f := ⟨_, rfl⟩
        rw [hf]
        have HF := Lib.hid hf
        clear hin ht hf
        by_cases hlr : r < n
        · obtain ⟨ad', e1, _, y0, y1, y2⟩ := PE.at3 (H.out.below HIN.out.be) (k := r) (by rw [HN.out]; exact hlr)
          injection e1 with e1
          subst e1
          obtain ⟨y, hy⟩ : ∃ y, ge l r = y := ⟨_, rfl⟩
          rw [hy] at y0 y1 y2
          have HY := Lib.hid hy
          have hrl : r < l.length := by rw [HN.out]; exact hlr
          have HRL := Lib.hid hrl
          clear hy hrl
          cases hsp : sp y x with
          | false =>
            have hskip := HIN.out.skip HRL.out (by rw [HY.out, HX.out]; exact hsp)
            have hfn : fstQ l q (r + 1) = f := by rw [fstQ_no HRL.out (by rw [HY.out, HX.out]; exact hsp)]; exact HF.out
            have HSK := Lib.hid hskip
            have HFN := Lib.hid hfn
            clear hskip hfn
            by_cases hk : y.1 = x.1
            · have hv : ¬ y.2.1 = x.2.1 := fun e => by rw [sp_no] at hsp; exact hsp ⟨hk, e⟩
              rw [hk] at y0
              clear hsp hk
              go_upto_region 10 with (fail)
              go_quiet (fail)
              have hdr := HSK.out.drew (k := nq)
              have HDR := Lib.hid hdr
              clear hdr y0 y1 b0 b1 b2 b3
              generalize wr.drewN nq = WT at *
              go_wp2_with fail
              go_roundw
              case rel => exact ⟨r + 1, by omega, by go_num, by rw [HFN.out], HDR.out⟩
              case measure => simp [intOf] <;> omega
            · have N1 : (y.1.toList == x.1.toList) = false := by rw [lE]; exact decide_eq_false hk
              clear hsp hk
              go_upto_region 10 with (fail)
              go_quiet (fail)
              have hdr := HSK.out.drew (k := nq)
              have HDR := Lib.hid hdr
              clear hdr y0 y1 b0 b1 b2 b3
              generalize wr.drewN nq = WT at *
              go_wp2_with fail
              go_roundw
              case rel => exact ⟨r + 1, by omega, by go_num, by rw [HFN.out], HDR.out⟩
              case measure => simp [intOf] <;> omega
          | true =>
            have HSP := Lib.hid hsp
            obtain ⟨h1, h2⟩ := sp_iff.1 hsp
            rw [h1] at y0
            rw [h2] at y1
            clear h1 h2 hsp
            go_upto_region 10 with (fail)
            go_quiet (fail)
            have hdr := HIN.out.drew (k := nq)
            have HDR := Lib.hid hdr
            obtain ⟨b0, b1, b2, b3⟩ := hdr.bx.cells
            rw [HX.out] at b0 b1
            rw [HT.out] at b2
            obtain ⟨ad', e1, _, y0, y1, y2⟩ := PE.at3 (H.out.below hdr.be) (k := r) HRL.out
            injection e1 with e1
            subst e1
            rw [HY.out] at y0 y1 y2
            have hfy : fstQ l q (r + 1) = (f && decide (q ≤ r)) := by rw [fstQ_yes HRL.out (by rw [HY.out, HX.out]; exact HSP.out), HF.out]
            have HFY := Lib.hid hfy
            have hmx := hdr.max HRL.out (by rw [HY.out, HX.out]; exact HSP.out) HBL.out fun g e => by have := HRO.out g e; omega
            rw [HT.out, HY.out] at hmx
            have HMX := Lib.hid hmx
            clear hdr hfy hmx
            generalize wr.drewN nq = WT at *
            by_cases hqr : q ≤ r
            · have hqr' : (q : Int) ≤ (r : Int) := by omega
              have hdd : decide ((q : Int) ≤ (r : Int)) = true := decide_eq_true hqr'
              cases f with
              | false =>
                go_upto_region 12 with (fail)
                go_still_tail 9, (by kernel_rfl)
                change wpList _ _ _ _ _ WT.drew
                go_wp2_with fail
                go_roundw
                case rel => exact ⟨r + 1, by omega, by go_num, by rw [HFY.out]; simp [hqr], HMX.out.drew1⟩
                case measure => simp [intOf] <;> omega
              | true =>
                go_upto_region 12 with (fail)
                go_still_tail 9, (by kernel_rfl)
                change wpList _ _ _ _ _ WT.drew
                go_wp2_with fail
                go_roundw
                case rel => exact ⟨r + 1, by omega, by go_num, by rw [HFY.out]; simp [hqr], HMX.out.drew1⟩
                case measure => simp [intOf] <;> omega
            · have hqr' : ¬ (q : Int) ≤ (r : Int) := by omega
              have hdd : decide ((q : Int) ≤ (r : Int)) = false := decide_eq_false hqr'
              cases f with
              | false =>
                go_upto_region 12 with (fail)
                go_still_tail 9, (by kernel_rfl)
                change wpList _ _ _ _ _ WT.drew
                go_wp2_with fail
                go_roundw
                case rel => exact ⟨r + 1, by omega, by go_num, by rw [HFY.out]; simp [hqr], HMX.out.drew1⟩
                case measure => simp [intOf] <;> omega
              | true =>
                go_upto_region 12 with (fail)
                go_still_tail 9, (by kernel_rfl)
                change wpList _ _ _ _ _ WT.drew
                go_wp2_with fail
                go_roundw
                case rel => exact ⟨r + 1, by omega, by go_num, by rw [HFY.out]; simp [hqr], HMX.out.drew1⟩
                case measure => simp [intOf] <;> omega
        · obtain rfl : n = r := by omega
          have hff : fst1 l q = f := by rw [← fstQ_all HN.out hq]; exact HF.out
          have htt : topOf l x = t := by rw [← HX.out, ← topQ_all HN.out]; exact HT.out
          have hen : endsN l c (q + 1) = endsN l c q ++ (if f && decide (c < t) then [(x.1, x.2.1, t)] else []) := by
            show endsN l c q ++ (if fst1 l q && decide (c < topOf l (ge l q)) then [topE l (ge l q)] else []) = _
            rw [hff, HX.out, htt]
            unfold topE
            rw [htt]
          have hlen : (endsN l c q).length = m := HM.out
          have hrw := HIN.out.row
          have hbe := HIN.out.be
          have hbs := hbe.size
          have HEN := Lib.hid hen
          have HBE := Lib.hid hbe
          clear hff htt hen hbe
          cases f with
          | false =>
            have HRW := Lib.hid hrw
            clear hrw
            go_wp2_with fail
            go_roundw
            case rel =>
              refine ⟨q + 1, by omega, by go_num, ?_, HBE.out⟩
              rw [HEN.out]
              simp only [Bool.false_and, Bool.false_eq_true, if_false, List.append_nil]
              rw [HM.out]
              exact HRW.out
            case measure => simp [intOf] <;> omega
          | true =>
            by_cases hct : c < t
            · have hro := hrw.alloc (.cells #[.string x.1, .int .i64 x.2.1, .int .i64 t] 38)
              have hpn : PE (wr.alloc (.cells #[.string x.1, .int .i64 x.2.1, .int .i64 t] 38)) (.slice (some ⟨wr.heap.size, 0, none⟩) 1 1) [(x.1, x.2.1, t)] := pe_new wr [(x.1, x.2.1, t)] 1 1 rfl
              have HRO2 := Lib.hid hro
              have HPN := Lib.hid hpn
              clear hrw hro hpn
              go_wp2_with (at_builtin; refine wpList_append_pe rfl _ _ rfl (base := w.heap.size) Tryz.underlying31 hi hz0 hz1 hz2 rfl HRO2.out rfl HPN.out (by simp; omega) (by simp; omega) ?_; intro v6 w6 hown6 hgrow6 _; have h6 : Below w.heap.size w w6 := (HBE.out.alloc hbs _).grown hgrow6 (by simp; omega) (fun k e => (HRO2.out.lt k e).1); have H6 := Lib.hid h6; have HO6 := Lib.hid hown6; clear h6 hown6 hgrow6)
              go_roundw
              case rel =>
                refine ⟨q + 1, by omega, by go_num, ?_, H6.out⟩
                rw [HEN.out]
                simp only [hct, decide_true, Bool.and_self, if_true]
                rw [List.length_append, flatE_app, HM.out]
                exact HO6.out
              case measure => simp [intOf] <;> omega
            · have HRW := Lib.hid hrw
              clear hrw
              go_wp2_with fail
              go_roundw
              case rel =>
                refine ⟨q + 1, by omega, by go_num, ?_, HBE.out⟩
                rw [HEN.out]
                simp only [hct, decide_false, Bool.and_false, Bool.false_eq_true, if_false, List.append_nil]
                rw [HM.out]
                exact HRW.out
              case measure => simp [intOf] <;> omega
    · obtain rfl : n = q := by omega
      go_wp2_with fail
      go_ret
      exact ⟨_, rfl, by unfold endsL; rw [HN.out, HM.out]; exact HROW.out, HB.out⟩
end Go.Proofs.YtfcdgfjpmcapkaaGreat
