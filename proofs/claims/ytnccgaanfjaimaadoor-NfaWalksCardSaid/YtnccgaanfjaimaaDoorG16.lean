/- Texts PC, one behind the other. -/
import Derived.Test.YtnccgaanfjaimaaDoorG15
set_option linter.unusedSimpArgs false
set_option linter.unusedVariables false
namespace Go.Proofs.YtnccgaanfjaimaaDoor
open Go.ChangeShapes Go.WideShapes Go.ChangeAt Go.RowKit
set_option linter.unusedVariables false
set_option linter.unusedSimpArgs false

/-- is one of the first k of some places a last one, or is the word empty, and taken? -/
def endK (x : X) (u : Wd) (S k : Nat) : Bool := (decide (u.length = 0) && x.emp) || ((els S).take k).any fun p => decide (p ∈ els (nfL x))
theorem endK_zero (x : X) (u : Wd) (S : Nat) : endK x u S 0 = (decide (u.length = 0) && x.emp) := by simp [endK]
theorem endK_succ (x : X) (u : Wd) (S : Nat) {k : Nat} (h : k < (els S).length) : endK x u S (k + 1) = (endK x u S k || decide ((els S)[k] ∈ els (nfL x))) := by
  unfold endK
  rw [List.take_succ_eq_append_getElem h, List.any_append, Bool.or_assoc]
  simp
theorem endK_end {x : X} (hs : x.pn ≤ 24) (u : Wd) : endK x u (stepsN (nf x).1.labs (nfF x) 1 u) (els (stepsN (nf x).1.labs (nfF x) 1 u)).length = takesN x u := by
  have hl : nfL x < 2 ^ 32 := Nat.lt_of_lt_of_le (nfL_lt hs) (by decide)
  unfold endK takesN
  rw [List.take_length]
  by_cases hu : u = []
  · subst hu
    rw [if_pos rfl]
    have h0 : (els (stepsN (nf x).1.labs (nfF x) 1 [])) = [0] := by show els 1 = [0]; decide +kernel
    rw [h0]
    have : ¬ (0 ∈ els (nfL x)) := fun h => by
      have h1 := (mem_els.1 h).2
      rw [nfL_bit] at h1
      have := lst_in x 1 0 h1
      omega
    simp [this]
  · rw [if_neg hu]
    have h0 : decide (u.length = 0) = false := decide_eq_false (fun h => hu (List.eq_nil_of_length_eq_zero h))
    rw [h0, Bool.false_and, Bool.false_or]
    refine bool_ext ?_
    rw [List.any_eq_true, decide_eq_true_eq, and_ne_zero]
    constructor
    · rintro ⟨p, hp, hq⟩
      exact ⟨p, (mem_els.1 hp).2, (mem_els.1 (of_decide_eq_true hq)).2⟩
    · rintro ⟨q, h1, h2⟩
      have hq : q < 32 := Nat.lt_of_not_le fun hge => by rw [bit_false hl hge] at h2; cases h2
      exact ⟨q, mem_els.2 ⟨hq, h1⟩, decide_eq_true (mem_els.2 ⟨hq, h2⟩)⟩
theorem IR.at {w : World} {A : Option Addr} {n c : Nat} {l : List Int} (h : IR w (.slice A n c) l) (k : Nat) (hk : k < l.length) : ∃ ad, A = some ad ∧ w.cell? (ad.add k) = some (.int .i64 l[k]) := by
  obtain ⟨A', c', e, h⟩ := h
  obtain ⟨ad, had, _, hc⟩ := h (by omega)
  injection e with e1 _ _
  exact ⟨ad, e1.trans had, hc k hk⟩
theorem ints_get {l : List Nat} {k : Nat} (h : k < l.length) (h' : k < (ints l).length) : (ints l)[k] = (l[k] : Int) := by simp [ints]
theorem takes_both {x : X} (hr : x.right = true) (u : Wd) : takesB x u = takesN x u := by
  obtain ⟨hg, hs⟩ := right_good hr
  refine bool_ext ?_
  rw [takesB_iff, takesN_iff hg hs]
  simp [hr]

set_option maxRecDepth 100000 in
set_option maxHeartbeats 8000000 in
theorem words_any {M K : Nat} {w : World} {v wv : Value} {x : X} {u : Wd} (hx : XV M w v x) (hM : M ≤ w.heap.size) (hl : x.lit) (hu : SR K w wv u) (hK : K ≤ w.heap.size) (hT : Tb w) :
    Calls Tryd.prog 6 #[v, wv] w fun e w' => e = .returned (.bool true) ∧ Below w.heap.size w w' := by
  obtain ⟨kv, rfl, hr⟩ := hx
  obtain ⟨A, c, rfl⟩ := hr.form
  obtain ⟨Aw, cw, rfl, hcell⟩ := hu
  have Q0 := Lib.hid (Wp.new ⟨_, rfl, hr⟩ hM hT)
  have HL := Lib.hid hl
  obtain ⟨n, hn⟩ : ∃ n, x.kids.length = n := ⟨_, rfl⟩
  rw [hn] at Q0 ⊢
  obtain ⟨m, hm⟩ : ∃ m, u.length = m := ⟨_, rfl⟩
  have HMU := Lib.hid hm
  have HC := Lib.hid hcell
  have HSR := Lib.hid (show SR K w (.slice Aw u.length cw) u from ⟨Aw, cw, rfl, hcell⟩)
  rw [hm] at HSR ⊢
  have hM0 : M ≤ w.heap.size := hM
  clear hr hl hcell hT hn hm
  by_cases hsz : (300 : Int) < (szD 61 x : Int)
  · cases hrt : x.right with
    | true =>
      have HRT := Lib.hid hrt
      clear hrt
      go_enter Tryd.func6, Tryd.ntmps6
      go_wp2_with (first
        | (go_at_call 37; refine (right37_any Q4.out.xv (Nat.le_trans hM Q4.out.b.size) HL.out).mono ?_; rintro e w5 ⟨rfl, hb⟩; rw [HRT.out]; have Q5 := Lib.hid (Q4.out.bel hM hb); clear hb)
        | (go_at_call 8; refine (size8_any Q3.out.xv (Nat.le_trans hM Q3.out.b.size)).mono ?_; rintro e w4 ⟨rfl, hb⟩; have Q4 := Lib.hid (Q3.out.bel hM hb); obtain ⟨c0, c1, c2⟩ := Q4.out.cells; clear hb)
        | (go_at_call 8; refine (size8_any Q2.out.xv (Nat.le_trans hM Q2.out.b.size)).mono ?_; rintro e w3 ⟨rfl, hb⟩; have Q3 := Lib.hid (Q2.out.bel hM hb); obtain ⟨c0, c1, c2⟩ := Q3.out.cells; clear hb)
        | (go_at_call 11; refine (new11_any Q1.out.xv (Nat.le_trans hM Q1.out.b.size) Q1.out.tb HL.out).mono ?_; rintro e w2 ⟨hb, hnn⟩; rw [HRT.out] at hnn; rw [if_pos rfl] at hnn; obtain ⟨N, rfl, hn⟩ := hnn; have HNX := Lib.hid hn; clear hn; have Q2 := Lib.hid (Q1.out.bel hM hb); obtain ⟨c0, c1, c2⟩ := Q2.out.cells; clear hb)
        | (go_at_call 9; refine (awake_any Q0.out.tb).mono ?_; rintro e w1 ⟨rfl, hb⟩; have Q1 := Lib.hid (Q0.out.bel hM hb); obtain ⟨c0, c1, c2⟩ := Q1.out.cells; clear hb))
      go_ret
      exact ⟨rfl, Q4.out.b⟩
    | false =>
      have HRT := Lib.hid hrt
      clear hrt
      go_enter Tryd.func6, Tryd.ntmps6
      go_wp2_with (first
        | (go_at_call 37; refine (right37_any Q4.out.xv (Nat.le_trans hM Q4.out.b.size) HL.out).mono ?_; rintro e w5 ⟨rfl, hb⟩; rw [HRT.out]; have Q5 := Lib.hid (Q4.out.bel hM hb); clear hb)
        | (go_at_call 8; refine (size8_any Q3.out.xv (Nat.le_trans hM Q3.out.b.size)).mono ?_; rintro e w4 ⟨rfl, hb⟩; have Q4 := Lib.hid (Q3.out.bel hM hb); obtain ⟨c0, c1, c2⟩ := Q4.out.cells; clear hb)
        | (go_at_call 8; refine (size8_any Q2.out.xv (Nat.le_trans hM Q2.out.b.size)).mono ?_; rintro e w3 ⟨rfl, hb⟩; have Q3 := Lib.hid (Q2.out.bel hM hb); obtain ⟨c0, c1, c2⟩ := Q3.out.cells; clear hb)
        | (go_at_call 11; refine (new11_any Q1.out.xv (Nat.le_trans hM Q1.out.b.size) Q1.out.tb HL.out).mono ?_; rintro e w2 ⟨hb, hnn⟩; rw [HRT.out] at hnn; rw [if_neg (by simp)] at hnn; subst hnn; have Q2 := Lib.hid (Q1.out.bel hM hb); obtain ⟨c0, c1, c2⟩ := Q2.out.cells; clear hb)
        | (go_at_call 9; refine (awake_any Q0.out.tb).mono ?_; rintro e w1 ⟨rfl, hb⟩; have Q1 := Lib.hid (Q0.out.bel hM hb); obtain ⟨c0, c1, c2⟩ := Q1.out.cells; clear hb))
      go_ret
      exact ⟨rfl, Q4.out.b⟩
  · by_cases hln : (40 : Int) < (m : Int)
    · cases hrt : x.right with
      | true =>
        have HRT := Lib.hid hrt
        clear hrt
        go_enter Tryd.func6, Tryd.ntmps6
        go_wp2_with (first
          | (go_at_call 37; refine (right37_any Q4.out.xv (Nat.le_trans hM Q4.out.b.size) HL.out).mono ?_; rintro e w5 ⟨rfl, hb⟩; rw [HRT.out]; have Q5 := Lib.hid (Q4.out.bel hM hb); clear hb)
          | (go_at_call 8; refine (size8_any Q3.out.xv (Nat.le_trans hM Q3.out.b.size)).mono ?_; rintro e w4 ⟨rfl, hb⟩; have Q4 := Lib.hid (Q3.out.bel hM hb); obtain ⟨c0, c1, c2⟩ := Q4.out.cells; clear hb)
          | (go_at_call 8; refine (size8_any Q2.out.xv (Nat.le_trans hM Q2.out.b.size)).mono ?_; rintro e w3 ⟨rfl, hb⟩; have Q3 := Lib.hid (Q2.out.bel hM hb); obtain ⟨c0, c1, c2⟩ := Q3.out.cells; clear hb)
          | (go_at_call 11; refine (new11_any Q1.out.xv (Nat.le_trans hM Q1.out.b.size) Q1.out.tb HL.out).mono ?_; rintro e w2 ⟨hb, hnn⟩; rw [HRT.out] at hnn; rw [if_pos rfl] at hnn; obtain ⟨N, rfl, hn⟩ := hnn; have HNX := Lib.hid hn; clear hn; have Q2 := Lib.hid (Q1.out.bel hM hb); obtain ⟨c0, c1, c2⟩ := Q2.out.cells; clear hb)
          | (go_at_call 9; refine (awake_any Q0.out.tb).mono ?_; rintro e w1 ⟨rfl, hb⟩; have Q1 := Lib.hid (Q0.out.bel hM hb); obtain ⟨c0, c1, c2⟩ := Q1.out.cells; clear hb))
        go_ret
        exact ⟨rfl, Q4.out.b⟩
      | false =>
        have HRT := Lib.hid hrt
        clear hrt
        go_enter Tryd.func6, Tryd.ntmps6
        go_wp2_with (first
          | (go_at_call 37; refine (right37_any Q4.out.xv (Nat.le_trans hM Q4.out.b.size) HL.out).mono ?_; rintro e w5 ⟨rfl, hb⟩; rw [HRT.out]; have Q5 := Lib.hid (Q4.out.bel hM hb); clear hb)
          | (go_at_call 8; refine (size8_any Q3.out.xv (Nat.le_trans hM Q3.out.b.size)).mono ?_; rintro e w4 ⟨rfl, hb⟩; have Q4 := Lib.hid (Q3.out.bel hM hb); obtain ⟨c0, c1, c2⟩ := Q4.out.cells; clear hb)
          | (go_at_call 8; refine (size8_any Q2.out.xv (Nat.le_trans hM Q2.out.b.size)).mono ?_; rintro e w3 ⟨rfl, hb⟩; have Q3 := Lib.hid (Q2.out.bel hM hb); obtain ⟨c0, c1, c2⟩ := Q3.out.cells; clear hb)
          | (go_at_call 11; refine (new11_any Q1.out.xv (Nat.le_trans hM Q1.out.b.size) Q1.out.tb HL.out).mono ?_; rintro e w2 ⟨hb, hnn⟩; rw [HRT.out] at hnn; rw [if_neg (by simp)] at hnn; subst hnn; have Q2 := Lib.hid (Q1.out.bel hM hb); obtain ⟨c0, c1, c2⟩ := Q2.out.cells; clear hb)
          | (go_at_call 9; refine (awake_any Q0.out.tb).mono ?_; rintro e w1 ⟨rfl, hb⟩; have Q1 := Lib.hid (Q0.out.bel hM hb); obtain ⟨c0, c1, c2⟩ := Q1.out.cells; clear hb))
        go_ret
        exact ⟨rfl, Q4.out.b⟩
    · cases hrt : x.right with
      | false =>
        have HRT := Lib.hid hrt
        clear hrt
        go_enter Tryd.func6, Tryd.ntmps6
        go_wp2_with (first
          | (go_at_call 37; refine (right37_any Q4.out.xv (Nat.le_trans hM Q4.out.b.size) HL.out).mono ?_; rintro e w5 ⟨rfl, hb⟩; rw [HRT.out]; have Q5 := Lib.hid (Q4.out.bel hM hb); clear hb)
          | (go_at_call 8; refine (size8_any Q3.out.xv (Nat.le_trans hM Q3.out.b.size)).mono ?_; rintro e w4 ⟨rfl, hb⟩; have Q4 := Lib.hid (Q3.out.bel hM hb); obtain ⟨c0, c1, c2⟩ := Q4.out.cells; clear hb)
          | (go_at_call 8; refine (size8_any Q2.out.xv (Nat.le_trans hM Q2.out.b.size)).mono ?_; rintro e w3 ⟨rfl, hb⟩; have Q3 := Lib.hid (Q2.out.bel hM hb); obtain ⟨c0, c1, c2⟩ := Q3.out.cells; clear hb)
          | (go_at_call 11; refine (new11_any Q1.out.xv (Nat.le_trans hM Q1.out.b.size) Q1.out.tb HL.out).mono ?_; rintro e w2 ⟨hb, hnn⟩; rw [HRT.out] at hnn; rw [if_neg (by simp)] at hnn; subst hnn; have Q2 := Lib.hid (Q1.out.bel hM hb); obtain ⟨c0, c1, c2⟩ := Q2.out.cells; clear hb)
          | (go_at_call 9; refine (awake_any Q0.out.tb).mono ?_; rintro e w1 ⟨rfl, hb⟩; have Q1 := Lib.hid (Q0.out.bel hM hb); obtain ⟨c0, c1, c2⟩ := Q1.out.cells; clear hb))
        go_ret
        exact ⟨rfl, Q5.out.b⟩
      | true =>
        have HRT := Lib.hid hrt
        obtain ⟨hg, hs24⟩ := right_good hrt
        have hs : x.pn ≤ 24 := Nat.le_trans (pn_sz x) hs24
        have HTB := Lib.hid (takes_both hrt u)
        have HEND := Lib.hid (endK_end hs u)
        have HSZ := Lib.hid (And.intro hg hs24)
        have hpw : (2 : Nat) ^ (1 + x.pn) ≤ 2 ^ 32 := Nat.pow_le_pow_right (by decide) (by omega)
        have HST := Lib.hid (fun k => stepsN_lt (nf x).1.labs (nf_bd x).1 (u.take k) 1 (Nat.one_lt_two_pow (by omega)))
        have HPW := Lib.hid hpw
        clear hrt hg hs24 hpw
        go_enter Tryd.func6, Tryd.ntmps6
        go_upto_region 6 with (first
          | (go_at_call 8; refine (size8_any Q2.out.xv (Nat.le_trans hM Q2.out.b.size)).mono ?_; rintro e w3 ⟨rfl, hb⟩; have Q3 := Lib.hid (Q2.out.bel hM hb); have HN3 := Lib.hid (HNX.out.bel hb); clear hb)
          | (go_at_call 11; refine (new11_any Q1.out.xv (Nat.le_trans hM Q1.out.b.size) Q1.out.tb HL.out).mono ?_; rintro e w2 ⟨hb, hnn⟩; rw [HRT.out] at hnn; rw [if_pos rfl] at hnn; obtain ⟨N, rfl, hn⟩ := hnn; have HNX := Lib.hid hn; clear hn; have Q2 := Lib.hid (Q1.out.bel hM hb); obtain ⟨c0, c1, c2⟩ := Q2.out.cells; clear hb)
          | (go_at_call 9; refine (awake_any Q0.out.tb).mono ?_; rintro e w1 ⟨rfl, hb⟩; have Q1 := Lib.hid (Q0.out.bel hM hb); obtain ⟨c0, c1, c2⟩ := Q1.out.cells; clear hb))
        have hbw := (Below.refl _ w3).alloc (Nat.le_refl _) (.cells #[.int .i64 0] 3)
        have Q4 := Lib.hid (Q3.out.bel hM hbw)
        have HN4 := Lib.hid (HN3.out.bel hbw)
        have HI4 := Lib.hid (IR.lit1 w3 0)
        clear hbw
        obtain ⟨bb, hbb⟩ : ∃ y, w1.heap.size = y := ⟨_, rfl⟩
        rw [hbb] at HN4
        clear hbb HN3 HNX
        go_upto_region 8 with (fail)
        obtain ⟨w4, hw4⟩ : ∃ y, w3.alloc (.cells #[.int .i64 0] 3) = y := ⟨_, rfl⟩
        rw [hw4] at Q4 HN4 HI4 ⊢
        clear hw4
        obtain ⟨g4, hg4⟩ : ∃ y, w3.heap.size = y := ⟨_, rfl⟩
        rw [hg4] at HI4 ⊢
        clear hg4 Q0 Q1 Q2 Q3
        have HI0 := Lib.hid (show IR w4 (.slice (some ⟨g4, 0, none⟩) 1 1) (ints (els (stepsN (nf x).1.labs (nfF x) 1 (u.take 0)))) by have e : els (stepsN (nf x).1.labs (nfF x) 1 (u.take 0)) = [0] := (by show els 1 = [0]; decide +kernel); rw [e]; exact HI4.out)
        clear HI4
        go_loopw [7, 8] (fun a i wr => ∃ k : Nat, k ≤ m ∧ i = .int .i64 k ∧ IR wr a (ints (els (stepsN (nf x).1.labs (nfF x) 1 (u.take k)))) ∧ Wp M w x n c A wr ∧ NfX wr bb N x) (fun _ i _ => m - (intOf i).toNat)
        case atStart => exact ⟨0, Nat.zero_le _, rfl, HI0.out, Q4.out, HN4.out⟩
        case round =>
          obtain ⟨k, hk, rfl, hir, hwp, hnx⟩ := hrel
          have HIR := Lib.hid hir
          have HWP := Lib.hid hwp
          have HNX := Lib.hid hnx
          clear hir hwp hnx
          by_cases hlt : k < m
          · have e1 : k < u.length := by have := HMU.out; omega
            obtain ⟨ad, rfl, hbl, hc⟩ := HC.out (by omega)
            have q : wr.cell? (ad.add k) = some (.string u[k]) := (World.cell?_of_block (a := ad.add k) (by rw [block_add]; exact HWP.out.b.block _ (Nat.lt_of_lt_of_le hbl hK))).trans (hc k e1)
            have hsn : stepsN (nf x).1.labs (nfF x) 1 (u.take (k + 1)) = stepN (nf x).1.labs (nfF x) (stepsN (nf x).1.labs (nfF x) 1 (u.take k)) u[k] := by rw [List.take_succ_eq_append_getElem e1, stepsN_snoc]
            have hst := step27_any HNX.out HWP.out.tb hs HIR.out (by unfold ints; rw [List.length_map]; exact Nat.le_trans (els_len _) (by decide)) u[k]
            rw [knN_els x (HST.out k) (Nat.lt_of_lt_of_le (HST.out k) HPW.out), ← hsn] at hst
            have HSP := Lib.hid hst
            unfold ListQ at HSP
            obtain ⟨Aa, ca, rfl, -⟩ := HIR.out
            clear hst hsn hc
            go_wp2_with (go_at_call 27; refine HSP.out.mono ?_; rintro e w2 ⟨v, rfl, hi, hb⟩; have HI2 := Lib.hid (ListQ.ir hi); have HW2 := Lib.hid (HWP.out.bel hM hb); have HN2 := Lib.hid (HNX.out.bel hb); clear hi hb)
            go_roundw
            case rel => exact ⟨k + 1, by omega, by go_num, HI2.out, HW2.out, HN2.out⟩
            case measure => simp [intOf]; omega
          · have hkn : k = m := by omega
            have htk : u.take k = u := List.take_of_length_le (by have := HMU.out; omega)
            rw [htk] at HIR
            have hS := HST.out k
            rw [htk] at hS
            obtain ⟨S, hSe⟩ : ∃ y, stepsN (nf x).1.labs (nfF x) 1 u = y := ⟨_, rfl⟩
            rw [hSe] at HIR HEND hS
            have HS := Lib.hid hS
            clear htk hS hSe HST
            have hE0 := endK_zero x u S
            rw [HMU.out] at hE0
            have HLA := Lib.hid (fun W (hW : Below wr.heap.size wr W) => show Calls Tryd.prog 24 #[.pointer (some ⟨N, 0, none⟩)] W (ListQ (els (nfL x)) W) from last_any (HNX.out.bel hW) (HWP.out.tb.below hW HWP.out.tb.pos) hs)
            have HEM := Lib.hid (empty_any HNX.out)
            unfold ListQ at HLA
            obtain ⟨Aa, ca, ea, -⟩ := HIR.out
            obtain ⟨la, hla⟩ : ∃ y, (ints (els S)).length = y := ⟨_, rfl⟩
            rw [hla] at ea
            subst ea
            have HLEN := Lib.hid (show (els S).length = la by rw [← hla]; unfold ints; rw [List.length_map])
            clear hla
            have hla32 : la ≤ 32 := by have h1 := HLEN.out; have h2 := els_len S; omega
            by_cases hm0 : m = 0
            · rw [decide_eq_true hm0, Bool.true_and] at hE0
              subst hm0
              have HE0 := Lib.hid hE0
              clear hE0
              go_upto_region 14 with (first
                | (go_at_call 24; refine (HLA.out _ (Below.refl _ _)).mono ?_; rintro e w2 ⟨v, rfl, hi, hb⟩; have HI2 := Lib.hid (ListQ.ir hi); have HW2 := Lib.hid (HWP.out.bel hM hb); have HN2 := Lib.hid (HNX.out.bel hb); have HIS := Lib.hid (HIR.out.bel hb); clear hi hb)
                | (go_at_call 17; refine HEM.out.mono ?_; rintro e w2 ⟨rfl, rfl⟩))
              obtain ⟨Av, lv, cv, rfl⟩ : ∃ Av lv cv, v = .slice Av lv cv := (by obtain ⟨Av, cv, h, _⟩ := HI2.out; exact ⟨Av, _, cv, h⟩)
              clear HLA HEM
              go_loopw [9, 11] (fun d i wq => ∃ k : Nat, k ≤ la ∧ i = .int .i64 k ∧ d = .bool (endK x u S k) ∧ IR wq (.slice Aa la ca) (ints (els S)) ∧ IR wq (.slice Av lv cv) (ints (els (nfL x))) ∧ Wp M w x n c A wq ∧ NfX wq bb N x) (fun _ i _ => la - (intOf i).toNat)
              case atStart => exact ⟨0, Nat.zero_le _, rfl, by rw [HE0.out], HIS.out, HI2.out, HW2.out, HN2.out⟩
              case round =>
                obtain ⟨k2, hk2, rfl, rfl, h1, h2, h3, h4⟩ := hrel
                have H2 := Lib.hid (And.intro h1 (And.intro h2 (And.intro h3 h4)))
                have HHAS := Lib.hid (fun p => has38_any h2 (by unfold ints; rw [List.length_map]; exact Nat.le_trans (els_len _) (by decide)) p)
                by_cases hlt2 : k2 < la
                · have e2 : k2 < (els S).length := by have := HLEN.out; omega
                  have e3 : k2 < (ints (els S)).length := by unfold ints; rw [List.length_map]; exact e2
                  obtain ⟨ad, rfl, q⟩ := h1.at k2 e3
                  have hint : (ints (els S))[k2] = ((els S)[k2] : Int) := ints_get e2 e3
                  rw [hint] at q
                  have hsucc := endK_succ x u S e2
                  have hmem : decide (((els S)[k2] : Int) ∈ ints (els (nfL x))) = decide ((els S)[k2] ∈ els (nfL x)) := decide_eq_decide.2 ints_mem
                  have hh := HHAS.out ((els S)[k2] : Int)
                  rw [hmem] at hh
                  have HH1 := Lib.hid hh
                  cases hek : endK x u S k2 with
                  | true =>
                    rw [hek, Bool.true_or] at hsucc
                    have HQ := Lib.hid hsucc
                    clear hek hsucc hmem hh q h2 h3 h4
                    go_wp2_with fail
                    go_roundw
                    case rel => exact ⟨k2 + 1, by omega, by go_num, by rw [HQ.out], H2.out.1, H2.out.2.1, H2.out.2.2.1, H2.out.2.2.2⟩
                    case measure => simp [intOf]; omega
                  | false =>
                    rw [hek, Bool.false_or] at hsucc
                    have HQ := Lib.hid hsucc
                    generalize decide ((els S)[k2] ∈ els (nfL x)) = db at *
                    generalize ((els S)[k2] : Int) = pp at *
                    clear hek hsucc hmem hh h2 h3 h4 hint
                    go_wp2_with (go_at_call 38; refine HH1.out.mono ?_; rintro e w5 ⟨rfl, rfl⟩)
                    go_roundw
                    case rel => exact ⟨k2 + 1, by omega, by go_num, by rw [HQ.out], H2.out.1, H2.out.2.1, H2.out.2.2.1, H2.out.2.2.2⟩
                    case measure => simp [intOf]; omega
                · have hk2n : k2 = la := by omega
                  have hE : endK x u S k2 = takesB x u := by rw [HTB.out, ← HEND.out, hk2n, HLEN.out]
                  rw [hE]
                  clear hE hk2n h1 h2 h3 h4
                  have hcell2 := H2.out.2.2.1.cells
                  have hkM : M ≤ wr.heap.size := Nat.le_trans hM H2.out.2.2.1.b.size
                  have hsz5 : x.sz ≤ 100000 := by have := HSZ.out.2; omega
                  have cT := fun d os => Calls.regrown_of (takes20_any (H2.out.2.2.1.xv.bel ((below_regrown wr d os).mono hkM)) (Nat.le_trans hkM (below_regrown wr d os).size) hsz5 HL.out ((HSR.out.bel (H2.out.2.2.1.b.mono hK)).bel ((below_regrown wr d os).mono (Nat.le_trans hK H2.out.2.2.1.b.size))) (Nat.le_trans hK (Nat.le_trans H2.out.2.2.1.b.size (below_regrown wr d os).size)) (by have := HMU.out; omega))
                  have cN := fun d os => Calls.regrown_of (by have h := takes29_any (H2.out.2.2.2.bel (below_regrown wr d os)) (H2.out.2.2.1.tb.below (below_regrown wr d os) H2.out.2.2.1.tb.pos) hs ((HSR.out.bel (H2.out.2.2.1.b.mono hK)).bel ((below_regrown wr d os).mono (Nat.le_trans hK H2.out.2.2.1.b.size))) (Nat.le_trans hK (Nat.le_trans H2.out.2.2.1.b.size (below_regrown wr d os).size)) (by have := HMU.out; omega); rw [← HTB.out] at h; exact h)
                  have cE := fun d os => Calls.regrown_of ((empty_any (H2.out.2.2.2.bel (below_regrown wr d os))).mono (fun e w' h => (⟨h.1, by rw [h.2]; exact Below.refl _ _⟩ : _ ∧ Below _ _ w')))
                  have cX := fun d os => Calls.regrown_of (by have h := empty18_any (H2.out.2.2.1.xv.bel ((below_regrown wr d os).mono hkM)) (Nat.le_trans hkM (below_regrown wr d os).size) hsz5 HL.out; rw [HRT.out, Bool.true_and] at h; exact h)
                  obtain ⟨q0, q1, q2⟩ := hcell2
                  have q0 := cell_regrown q0; have q1 := cell_regrown q1; have q2 := cell_regrown q2
                  generalize takesB x u = E at *
                  generalize x.emp = em at *
                  go_upto_region 17 with (fail)
                  cases E with
                  | true =>
                    cases em with
                    | true =>
                      refine wp_region_quiet_below (by kernel_rfl) (by kernel_rfl) ?_
                      repeat (first | go_big_quiet_skip | (go_big_quiet_want; go_big_quiet_op; first | go_big_quiet_on | go_big_quiet_call (first | with_reducible exact cT _ _ | with_reducible exact cN _ _ | with_reducible exact cE _ _ | with_reducible exact cX _ _)) | quiet_step (first | with_reducible exact cT _ _ | with_reducible exact cN _ _ | with_reducible exact cE _ _ | with_reducible exact cX _ _))
                      refine wpQuiet_nil ?_
                      intro _ hw'
                      obtain ⟨⟨dq, osq⟩, hw''⟩ := hw'
                      subst hw''
                      go_wp2_with fail
                      go_ret
                      exact ⟨rfl, H2.out.2.2.1.b.trans ((below_regrown wr dq osq).mono H2.out.2.2.1.b.size)⟩
                    | false =>
                      refine wp_region_quiet_below (by kernel_rfl) (by kernel_rfl) ?_
                      repeat (first | go_big_quiet_skip | (go_big_quiet_want; go_big_quiet_op; first | go_big_quiet_on | go_big_quiet_call (first | with_reducible exact cT _ _ | with_reducible exact cN _ _ | with_reducible exact cE _ _ | with_reducible exact cX _ _)) | quiet_step (first | with_reducible exact cT _ _ | with_reducible exact cN _ _ | with_reducible exact cE _ _ | with_reducible exact cX _ _))
                      refine wpQuiet_nil ?_
                      intro _ hw'
                      obtain ⟨⟨dq, osq⟩, hw''⟩ := hw'
                      subst hw''
                      go_wp2_with fail
                      go_ret
                      exact ⟨rfl, H2.out.2.2.1.b.trans ((below_regrown wr dq osq).mono H2.out.2.2.1.b.size)⟩
                  | false =>
                    cases em with
                    | true =>
                      refine wp_region_quiet_below (by kernel_rfl) (by kernel_rfl) ?_
                      repeat (first | go_big_quiet_skip | (go_big_quiet_want; go_big_quiet_op; first | go_big_quiet_on | go_big_quiet_call (first | with_reducible exact cT _ _ | with_reducible exact cN _ _ | with_reducible exact cE _ _ | with_reducible exact cX _ _)) | quiet_step (first | with_reducible exact cT _ _ | with_reducible exact cN _ _ | with_reducible exact cE _ _ | with_reducible exact cX _ _))
                      refine wpQuiet_nil ?_
                      intro _ hw'
                      obtain ⟨⟨dq, osq⟩, hw''⟩ := hw'
                      subst hw''
                      go_wp2_with fail
                      go_ret
                      exact ⟨rfl, H2.out.2.2.1.b.trans ((below_regrown wr dq osq).mono H2.out.2.2.1.b.size)⟩
                    | false =>
                      refine wp_region_quiet_below (by kernel_rfl) (by kernel_rfl) ?_
                      repeat (first | go_big_quiet_skip | (go_big_quiet_want; go_big_quiet_op; first | go_big_quiet_on | go_big_quiet_call (first | with_reducible exact cT _ _ | with_reducible exact cN _ _ | with_reducible exact cE _ _ | with_reducible exact cX _ _)) | quiet_step (first | with_reducible exact cT _ _ | with_reducible exact cN _ _ | with_reducible exact cE _ _ | with_reducible exact cX _ _))
                      refine wpQuiet_nil ?_
                      intro _ hw'
                      obtain ⟨⟨dq, osq⟩, hw''⟩ := hw'
                      subst hw''
                      go_wp2_with fail
                      go_ret
                      exact ⟨rfl, H2.out.2.2.1.b.trans ((below_regrown wr dq osq).mono H2.out.2.2.1.b.size)⟩
            · have hm0' : ((m : Int) == 0) = false := by simp [hm0]
              rw [decide_eq_false hm0, Bool.false_and] at hE0
              have HE0 := Lib.hid hE0
              clear hE0
              go_upto_region 14 with (first
                | (go_at_call 24; refine (HLA.out _ (Below.refl _ _)).mono ?_; rintro e w2 ⟨v, rfl, hi, hb⟩; have HI2 := Lib.hid (ListQ.ir hi); have HW2 := Lib.hid (HWP.out.bel hM hb); have HN2 := Lib.hid (HNX.out.bel hb); have HIS := Lib.hid (HIR.out.bel hb); clear hi hb)
                | (go_at_call 17; refine HEM.out.mono ?_; rintro e w2 ⟨rfl, rfl⟩))
              obtain ⟨Av, lv, cv, rfl⟩ : ∃ Av lv cv, v = .slice Av lv cv := (by obtain ⟨Av, cv, h, _⟩ := HI2.out; exact ⟨Av, _, cv, h⟩)
              clear HLA HEM
              go_loopw [9, 11] (fun d i wq => ∃ k : Nat, k ≤ la ∧ i = .int .i64 k ∧ d = .bool (endK x u S k) ∧ IR wq (.slice Aa la ca) (ints (els S)) ∧ IR wq (.slice Av lv cv) (ints (els (nfL x))) ∧ Wp M w x n c A wq ∧ NfX wq bb N x) (fun _ i _ => la - (intOf i).toNat)
              case atStart => exact ⟨0, Nat.zero_le _, rfl, by rw [HE0.out], HIS.out, HI2.out, HW2.out, HN2.out⟩
              case round =>
                obtain ⟨k2, hk2, rfl, rfl, h1, h2, h3, h4⟩ := hrel
                have H2 := Lib.hid (And.intro h1 (And.intro h2 (And.intro h3 h4)))
                have HHAS := Lib.hid (fun p => has38_any h2 (by unfold ints; rw [List.length_map]; exact Nat.le_trans (els_len _) (by decide)) p)
                by_cases hlt2 : k2 < la
                · have e2 : k2 < (els S).length := by have := HLEN.out; omega
                  have e3 : k2 < (ints (els S)).length := by unfold ints; rw [List.length_map]; exact e2
                  obtain ⟨ad, rfl, q⟩ := h1.at k2 e3
                  have hint : (ints (els S))[k2] = ((els S)[k2] : Int) := ints_get e2 e3
                  rw [hint] at q
                  have hsucc := endK_succ x u S e2
                  have hmem : decide (((els S)[k2] : Int) ∈ ints (els (nfL x))) = decide ((els S)[k2] ∈ els (nfL x)) := decide_eq_decide.2 ints_mem
                  have hh := HHAS.out ((els S)[k2] : Int)
                  rw [hmem] at hh
                  have HH1 := Lib.hid hh
                  cases hek : endK x u S k2 with
                  | true =>
                    rw [hek, Bool.true_or] at hsucc
                    have HQ := Lib.hid hsucc
                    clear hek hsucc hmem hh q h2 h3 h4
                    go_wp2_with fail
                    go_roundw
                    case rel => exact ⟨k2 + 1, by omega, by go_num, by rw [HQ.out], H2.out.1, H2.out.2.1, H2.out.2.2.1, H2.out.2.2.2⟩
                    case measure => simp [intOf]; omega
                  | false =>
                    rw [hek, Bool.false_or] at hsucc
                    have HQ := Lib.hid hsucc
                    generalize decide ((els S)[k2] ∈ els (nfL x)) = db at *
                    generalize ((els S)[k2] : Int) = pp at *
                    clear hek hsucc hmem hh h2 h3 h4 hint
                    go_wp2_with (go_at_call 38; refine HH1.out.mono ?_; rintro e w5 ⟨rfl, rfl⟩)
                    go_roundw
                    case rel => exact ⟨k2 + 1, by omega, by go_num, by rw [HQ.out], H2.out.1, H2.out.2.1, H2.out.2.2.1, H2.out.2.2.2⟩
                    case measure => simp [intOf]; omega
                · have hk2n : k2 = la := by omega
                  have hE : endK x u S k2 = takesB x u := by rw [HTB.out, ← HEND.out, hk2n, HLEN.out]
                  rw [hE]
                  clear hE hk2n h1 h2 h3 h4
                  have hcell2 := H2.out.2.2.1.cells
                  have hkM : M ≤ wr.heap.size := Nat.le_trans hM H2.out.2.2.1.b.size
                  have hsz5 : x.sz ≤ 100000 := by have := HSZ.out.2; omega
                  have cT := fun d os => Calls.regrown_of (takes20_any (H2.out.2.2.1.xv.bel ((below_regrown wr d os).mono hkM)) (Nat.le_trans hkM (below_regrown wr d os).size) hsz5 HL.out ((HSR.out.bel (H2.out.2.2.1.b.mono hK)).bel ((below_regrown wr d os).mono (Nat.le_trans hK H2.out.2.2.1.b.size))) (Nat.le_trans hK (Nat.le_trans H2.out.2.2.1.b.size (below_regrown wr d os).size)) (by have := HMU.out; omega))
                  have cN := fun d os => Calls.regrown_of (by have h := takes29_any (H2.out.2.2.2.bel (below_regrown wr d os)) (H2.out.2.2.1.tb.below (below_regrown wr d os) H2.out.2.2.1.tb.pos) hs ((HSR.out.bel (H2.out.2.2.1.b.mono hK)).bel ((below_regrown wr d os).mono (Nat.le_trans hK H2.out.2.2.1.b.size))) (Nat.le_trans hK (Nat.le_trans H2.out.2.2.1.b.size (below_regrown wr d os).size)) (by have := HMU.out; omega); rw [← HTB.out] at h; exact h)
                  have cE := fun d os => Calls.regrown_of ((empty_any (H2.out.2.2.2.bel (below_regrown wr d os))).mono (fun e w' h => (⟨h.1, by rw [h.2]; exact Below.refl _ _⟩ : _ ∧ Below _ _ w')))
                  have cX := fun d os => Calls.regrown_of (by have h := empty18_any (H2.out.2.2.1.xv.bel ((below_regrown wr d os).mono hkM)) (Nat.le_trans hkM (below_regrown wr d os).size) hsz5 HL.out; rw [HRT.out, Bool.true_and] at h; exact h)
                  obtain ⟨q0, q1, q2⟩ := hcell2
                  have q0 := cell_regrown q0; have q1 := cell_regrown q1; have q2 := cell_regrown q2
                  generalize takesB x u = E at *
                  generalize x.emp = em at *
                  go_upto_region 17 with (fail)
                  cases E with
                  | true =>
                    cases em with
                    | true =>
                      refine wp_region_quiet_below (by kernel_rfl) (by kernel_rfl) ?_
                      repeat (first | go_big_quiet_skip | (go_big_quiet_want; go_big_quiet_op; first | go_big_quiet_on | go_big_quiet_call (first | with_reducible exact cT _ _ | with_reducible exact cN _ _ | with_reducible exact cE _ _ | with_reducible exact cX _ _)) | quiet_step (first | with_reducible exact cT _ _ | with_reducible exact cN _ _ | with_reducible exact cE _ _ | with_reducible exact cX _ _))
                      refine wpQuiet_nil ?_
                      intro _ hw'
                      obtain ⟨⟨dq, osq⟩, hw''⟩ := hw'
                      subst hw''
                      go_wp2_with fail
                      go_ret
                      exact ⟨rfl, H2.out.2.2.1.b.trans ((below_regrown wr dq osq).mono H2.out.2.2.1.b.size)⟩
                    | false =>
                      refine wp_region_quiet_below (by kernel_rfl) (by kernel_rfl) ?_
                      repeat (first | go_big_quiet_skip | (go_big_quiet_want; go_big_quiet_op; first | go_big_quiet_on | go_big_quiet_call (first | with_reducible exact cT _ _ | with_reducible exact cN _ _ | with_reducible exact cE _ _ | with_reducible exact cX _ _)) | quiet_step (first | with_reducible exact cT _ _ | with_reducible exact cN _ _ | with_reducible exact cE _ _ | with_reducible exact cX _ _))
                      refine wpQuiet_nil ?_
                      intro _ hw'
                      obtain ⟨⟨dq, osq⟩, hw''⟩ := hw'
                      subst hw''
                      go_wp2_with fail
                      go_ret
                      exact ⟨rfl, H2.out.2.2.1.b.trans ((below_regrown wr dq osq).mono H2.out.2.2.1.b.size)⟩
                  | false =>
                    cases em with
                    | true =>
                      refine wp_region_quiet_below (by kernel_rfl) (by kernel_rfl) ?_
                      repeat (first | go_big_quiet_skip | (go_big_quiet_want; go_big_quiet_op; first | go_big_quiet_on | go_big_quiet_call (first | with_reducible exact cT _ _ | with_reducible exact cN _ _ | with_reducible exact cE _ _ | with_reducible exact cX _ _)) | quiet_step (first | with_reducible exact cT _ _ | with_reducible exact cN _ _ | with_reducible exact cE _ _ | with_reducible exact cX _ _))
                      refine wpQuiet_nil ?_
                      intro _ hw'
                      obtain ⟨⟨dq, osq⟩, hw''⟩ := hw'
                      subst hw''
                      go_wp2_with fail
                      go_ret
                      exact ⟨rfl, H2.out.2.2.1.b.trans ((below_regrown wr dq osq).mono H2.out.2.2.1.b.size)⟩
                    | false =>
                      refine wp_region_quiet_below (by kernel_rfl) (by kernel_rfl) ?_
                      repeat (first | go_big_quiet_skip | (go_big_quiet_want; go_big_quiet_op; first | go_big_quiet_on | go_big_quiet_call (first | with_reducible exact cT _ _ | with_reducible exact cN _ _ | with_reducible exact cE _ _ | with_reducible exact cX _ _)) | quiet_step (first | with_reducible exact cT _ _ | with_reducible exact cN _ _ | with_reducible exact cE _ _ | with_reducible exact cX _ _))
                      refine wpQuiet_nil ?_
                      intro _ hw'
                      obtain ⟨⟨dq, osq⟩, hw''⟩ := hw'
                      subst hw''
                      go_wp2_with fail
                      go_ret
                      exact ⟨rfl, H2.out.2.2.1.b.trans ((below_regrown wr dq osq).mono H2.out.2.2.1.b.size)⟩
end Go.Proofs.YtnccgaanfjaimaaDoor
