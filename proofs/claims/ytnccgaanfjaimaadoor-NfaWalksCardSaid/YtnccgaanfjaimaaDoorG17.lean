/- Texts PE, PF, one behind the other. -/
import Derived.Test.YtnccgaanfjaimaaDoorG16
set_option linter.unusedSimpArgs false
set_option linter.unusedVariables false
namespace Go.Proofs.YtnccgaanfjaimaaDoor
open Go.ChangeShapes Go.WideShapes Go.ChangeAt Go.RowKit
set_option linter.unusedVariables false
set_option linter.unusedSimpArgs false

theorem pnL_take {ks : List X} {k : Nat} (h : k < ks.length) : pnL (ks.take (k + 1)) = pnL (ks.take k) + ks[k].pn := by
  rw [List.take_succ_eq_append_getElem h]
  have : ∀ (a b : List X), pnL (a ++ b) = pnL a + pnL b := by
    intro a b
    induction a with
    | nil => simp [pnL_nil]
    | cons x xs ih => rw [List.cons_append, pnL_cons, pnL_cons, ih]; omega
  rw [this, pnL_cons, pnL_nil]
  omega
theorem pnL_take_le (ks : List X) (k : Nat) : pnL (ks.take k) ≤ pnL ks := by
  by_cases h : k ≤ ks.length
  · have : ∀ (a b : List X), pnL (a ++ b) = pnL a + pnL b := by
      intro a b
      induction a with
      | nil => simp [pnL_nil]
      | cons x xs ih => rw [List.cons_append, pnL_cons, pnL_cons, ih]; omega
    have h2 := this (ks.take k) (ks.drop k)
    rw [List.take_append_drop] at h2
    omega
  · rw [List.take_of_length_le (by omega)]; exact Nat.le_refl _

set_option maxRecDepth 100000 in
set_option maxHeartbeats 4000000 in
theorem labels41_any : ∀ x : X, x.sz ≤ 100000 → ∀ (M : Nat) (w : World) (v : Value), XV M w v x → M ≤ w.heap.size → Calls Tryd.prog 41 #[v] w fun e w' => e = .returned (.int .i64 x.pn) ∧ Below w.heap.size w w' := by
  intro x
  induction x using X.ind' with
  | h x ih =>
    intro hs M w v hx hM
    obtain ⟨kv, rfl, hr⟩ := hx
    obtain ⟨A, c, rfl⟩ := hr.form
    have hx0 := at_push w (.cells #[.int .i64 x.kind, .string x.lab, .slice A x.kids.length c] 25)
    have hb := (Below.refl _ w).alloc (Nat.le_refl _) (.cells #[.int .i64 x.kind, .string x.lab, .slice A x.kids.length c] 25)
    have c0 := cell_of_row _ _ 0 _ 25 (0, 0) hx0
    have c1 := cell_of_row _ _ 1 _ 25 (0, 0) hx0
    have c2 := cell_of_row _ _ 2 _ 25 (0, 0) hx0
    simp only [List.getElem?_toArray, List.getElem?_cons_zero, List.getElem?_cons_succ] at c0 c1 c2
    by_cases h1 : x.kind = 1
    · rw [X.pn_eq, if_pos h1]
      rw [h1] at c0 hb ⊢
      have HB := Lib.hid hb
      have c0' : (w.alloc (.cells #[.int .i64 1, .string x.lab, .slice A x.kids.length c] 25)).cell? ⟨w.heap.size, 0, none⟩ = some (.int .i64 1) := cell_of_row _ _ 0 _ 25 (0, 0) (at_push w _)
      clear hx0 hb hr ih c0 c1 c2
      go_enter Tryd.func41, Tryd.ntmps41
      go_wp2_with fail
      go_ret
      exact ⟨rfl, HB.out⟩
    · have ek : (x.kind == 1) = false := by simp [h1]
      have hpn : x.pn = pnL x.kids := by rw [X.pn_eq, if_neg h1]
      rw [hpn]
      obtain ⟨n, hn⟩ : ∃ n, x.kids.length = n := ⟨_, rfl⟩
      have HN := Lib.hid hn
      have HB := Lib.hid hb
      have HX0 := Lib.hid hx0
      have hXR := hr.bel (hb.mono hM)
      have HXR := Lib.hid hXR
      have hkl : n ≤ 100000 := by have := len_szL x.kids; have := x.sz_eq; omega
      have hpl : pnL x.kids ≤ 100000 := by have := pn_szL x.kids; have := x.sz_eq; omega
      have hkz : ∀ y ∈ x.kids, y.sz ≤ 100000 := fun y hy => by have := szL_mem hy; have := x.sz_eq; omega
      have HIH := Lib.hid (fun y (hy : y ∈ x.kids) => ih y hy (hkz y hy))
      rw [hn] at HX0 HB HXR c0 c1 c2 ⊢
      have htl : ∀ k, pnL (x.kids.take k) ≤ 100000 := fun k => Nat.le_trans (pnL_take_le _ _) hpl
      have HTL := Lib.hid htl
      clear hx0 hb hr ih h1 hpn hn hXR hpl hkz hs htl
      generalize x.kids = ks at *
      generalize x.kind = kk at *
      go_enter Tryd.func41, Tryd.ntmps41
      go_upto_region 5 with (fail)
      try simp only [ek]
      clear ek
      obtain ⟨W0, hW0⟩ : ∃ y, w.alloc (.cells #[.int .i64 kk, .string x.lab, .slice A n c] 25) = y := ⟨_, rfl⟩
      rw [hW0] at HX0 HB HXR c0 c1 c2 ⊢
      clear hW0 c0 c1 c2
      go_loopw [3, 4] (fun s i wr => ∃ k : Nat, k ≤ n ∧ i = .int .i64 k ∧ s = .int .i64 (pnL (ks.take k) : Nat) ∧ Below W0.heap.size W0 wr) (fun _ i _ => n - (intOf i).toNat)
      case atStart => exact ⟨0, Nat.zero_le _, rfl, by simp [pnL_nil], Below.refl _ _⟩
      case round =>
        obtain ⟨k, hk, rfl, rfl, hbw⟩ := hrel
        have HBW := Lib.hid hbw
        have hxw := (hbw.block _ (Array.getElem?_eq_some_iff.1 HX0.out).1).trans HX0.out
        have c2 := cell_of_row _ _ 2 _ 25 (0, 0) hxw
        simp only [List.getElem?_toArray, List.getElem?_cons_zero, List.getElem?_cons_succ] at c2
        have htk := HTL.out k
        by_cases hlt : k < n
        · have e1 : k < ks.length := by have := HN.out; omega
          obtain ⟨ad, kv, f1, _, q0, q1, q2, q3⟩ := XR.at3 (HXR.out.bel (hbw.mono (Nat.le_trans hM HB.out.size))) e1
          subst f1
          have htk2 := HTL.out (k + 1)
          rw [pnL_take e1] at htk2
          have hnext := pnL_take e1
          have HC := Lib.hid (HIH.out ks[k] (List.getElem_mem e1) M wr (.agg #[.int .i64 ks[k].kind, .string ks[k].lab, kv]) ⟨kv, rfl, q3⟩ (Nat.le_trans hM (Nat.le_trans HB.out.size hbw.size)))
          have HNX := Lib.hid hnext
          clear hbw hxw hnext q3
          go_wp2_with (go_at_call 41; refine HC.out.mono ?_; rintro e w2 ⟨rfl, hb2⟩; have HB2 := Lib.hid (HBW.out.trans (hb2.mono HBW.out.size)); clear hb2)
          go_roundw
          case rel => exact ⟨k + 1, by omega, by go_num, by rw [HNX.out]; go_num, HB2.out⟩
          case measure => simp [intOf]; omega
        · have hkn : k = n := by omega
          have : ks.take k = ks := List.take_of_length_le (by have := HN.out; omega)
          rw [this]
          clear this hbw hxw
          go_wp2_with fail
          go_ret
          exact ⟨rfl, HB.out.trans (HBW.out.mono HB.out.size)⟩

/-- where one may go on: to each of these a walk leads, whose word is the word so far, and its label -/
def Goes (x : X) (S : Nat) (u : Wd) : Prop := ∀ q, S.testBit q = true → ∃ f, x.fst 1 f = true ∧ Rn (fun i => (nf x).1.labs[i]?.getD ⟨#[]⟩) (x.fol 1) f (u ++ [(nf x).1.labs[q]?.getD ⟨#[]⟩]) q
theorem Goes.start (x : X) : Goes x (nfF x 0) [] := fun q hq => ⟨q, by rw [← nfF_zero]; exact hq, .one q⟩
theorem Goes.step {x : X} {S : Nat} {u : Wd} (h : Goes x S u) {p : Nat} (hp : S.testBit p = true) (h0 : 0 < p) : Goes x (nfF x p) (u ++ [(nf x).1.labs[p]?.getD ⟨#[]⟩]) := by
  intro q hq
  obtain ⟨f, hf, hr⟩ := h p hp
  rw [nfF_pos x h0] at hq
  exact ⟨f, hf, hr.app hq (.one q)⟩
theorem Goes.takes {x : X} (hr : x.right = true) {S : Nat} {u : Wd} (h : Goes x S u) {p : Nat} (hp : S.testBit p = true) (hl : p ∈ els (nfL x)) : takesB x (u ++ [(nf x).1.labs[p]?.getD ⟨#[]⟩]) = true := by
  rw [takesB_iff]
  refine ⟨hr, (walks_any x (right_good hr).1 1 _ (lbAt_nf x) _).2 (.inr ?_)⟩
  obtain ⟨f, hf, hrn⟩ := h p hp
  exact ⟨f, p, hf, by rw [← nfL_bit]; exact (mem_els.1 hl).2, hrn⟩
theorem nfF_range {x : X} (p q : Nat) (h : (nfF x p).testBit q = true) : 1 ≤ q ∧ q ≤ x.pn := by
  by_cases h0 : p = 0
  · subst h0
    rw [nfF_zero] at h
    have := fst_in x 1 q h
    omega
  · rw [nfF_pos x (by omega)] at h
    have := fol_in x 1 p q h
    omega
theorem step_one {x : X} (hs : x.pn ≤ 24) {p : Nat} (h0 : 0 < p) (hp : p ≤ x.pn) (s : ByteArray) {m : Nat} : (m ∈ els (stepN (nf x).1.labs (nfF x) (knN x [(p : Int)]) s)) ↔ (m ∈ els (nfF x p) ∧ (nf x).1.labs[m]?.getD ⟨#[]⟩ = s) := by
  have hk : knN x [(p : Int)] = 2 ^ p := by
    have hok : okP x (p : Int) = true := by unfold okP; rw [decide_eq_true_eq]; omega
    have := knN_snoc x [] (p : Int)
    rw [List.nil_append, if_pos hok] at this
    rw [this]
    simp [knN, orL]
  rw [hk, mem_els, mem_els, stepN_bit (n := 1 + x.pn) (by omega) (nf_bd x).1 (Nat.pow_lt_pow_right (by decide) (by omega))]
  constructor
  · rintro ⟨h1, ⟨q, hq, h2⟩, h3⟩
    rw [Nat.testBit_two_pow, decide_eq_true_eq] at hq
    subst hq
    exact ⟨⟨h1, h2⟩, h3⟩
  · rintro ⟨⟨h1, h2⟩, h3⟩
    exact ⟨h1, ⟨p, by rw [Nat.testBit_two_pow]; simp, h2⟩, h3⟩
theorem els_pos {s p : Nat} (h : s.testBit p = true) (hp : p < 32) : 0 < (els s).length := List.length_pos_of_mem (mem_els.2 ⟨hp, h⟩)
theorem first_pos {x : X} (hg : x.good) (hs : x.pn ≤ 24) : 0 < (els (nfF x 0)).length := by
  obtain ⟨p, hp⟩ := (fst_some x hg 1).1
  have := fst_in x 1 p hp
  exact els_pos (by rw [nfF_zero]; exact hp) (by omega)
theorem last_pos {x : X} (hg : x.good) (hs : x.pn ≤ 24) : 0 < (els (nfL x)).length := by
  obtain ⟨p, hp⟩ := (fst_some x hg 1).2
  have := lst_in x 1 p hp
  exact els_pos (by rw [nfL_bit]; exact hp) (by omega)
theorem SR.of_own {w : World} {base n : Nat} {v : Value} {l : Wd} (h : w.ownsRow base 9 1 v n (l.map Value.string)) : SR w.heap.size w v l := by
  have hn : n = l.length := by have := h.1; simp at this; omega
  subst hn
  rcases h.2 with ⟨rfl, hx⟩ | ⟨g, cap, cur, rfl, _, hh, _⟩
  · have : l = [] := List.eq_nil_of_length_eq_zero hx
    subst this
    exact ⟨Option.none, 0, rfl, fun h => absurd h (by simp)⟩
  · refine ⟨_, cap, rfl, fun _ => ⟨_, rfl, (Array.getElem?_eq_some_iff.1 hh).1, fun k hk => ?_⟩⟩
    exact h.cells (g := g) rfl k _ (by simp [hk])
end Go.Proofs.YtnccgaanfjaimaaDoor

namespace Go.Proofs.YtnccgaanfjaimaaDoor
open Go.ChangeShapes Go.WideShapes Go.ChangeAt Go.RowKit
set_option linter.unusedVariables false
set_option linter.unusedSimpArgs false

set_option maxRecDepth 100000 in
set_option maxHeartbeats 8000000 in
theorem walks7_any {M : Nat} {w : World} {v tv : Value} {x : X} {ts : List Int} (s : ByteArray) (hx : XV M w v x) (hM : M ≤ w.heap.size) (hl : x.lit) (hu : IR w tv ts) (hT : Tb w) :
    Calls Tryd.prog 7 #[v, tv, .string s] w fun e w' => e = .returned (.bool true) ∧ Below w.heap.size w w' := by
  obtain ⟨kv, rfl, hr⟩ := hx
  obtain ⟨A, c, rfl⟩ := hr.form
  have HTI := Lib.hid hu
  obtain ⟨At, ct, rfl, -⟩ := hu
  have Q0 := Lib.hid (Wp.new ⟨_, rfl, hr⟩ hM hT)
  have HL := Lib.hid hl
  obtain ⟨n, hn⟩ : ∃ n, x.kids.length = n := ⟨_, rfl⟩
  rw [hn] at Q0 ⊢
  obtain ⟨m, hm⟩ : ∃ m, ts.length = m := ⟨_, rfl⟩
  have HMU := Lib.hid hm
  rw [hm] at HTI ⊢
  clear hr hl hT hn hm
  by_cases hsz : (300 : Int) < (szD 61 x : Int)
  · cases hrt : x.right with
    | true =>
      have HRT := Lib.hid hrt
      clear hrt
      go_enter Tryd.func7, Tryd.ntmps7
      go_wp2_with (first
        | (go_at_call 8; refine (size8_any Q2.out.xv (Nat.le_trans hM Q2.out.b.size)).mono ?_; rintro e w3 ⟨rfl, hb⟩; have Q3 := Lib.hid (Q2.out.bel hM hb); clear hb)
        | (go_at_call 11; refine (new11_any Q1.out.xv (Nat.le_trans hM Q1.out.b.size) Q1.out.tb HL.out).mono ?_; rintro e w2 ⟨hb, hnn⟩; rw [HRT.out] at hnn; rw [if_pos rfl] at hnn; obtain ⟨N, rfl, hn⟩ := hnn; have HNX := Lib.hid hn; clear hn; have Q2 := Lib.hid (Q1.out.bel hM hb); obtain ⟨c0, c1, c2⟩ := Q2.out.cells; clear hb)
        | (go_at_call 9; refine (awake_any Q0.out.tb).mono ?_; rintro e w1 ⟨rfl, hb⟩; have Q1 := Lib.hid (Q0.out.bel hM hb); obtain ⟨c0, c1, c2⟩ := Q1.out.cells; clear hb))
      go_ret
      exact ⟨rfl, Q3.out.b⟩
    | false =>
      have HRT := Lib.hid hrt
      clear hrt
      go_enter Tryd.func7, Tryd.ntmps7
      go_wp2_with (first
        | (go_at_call 8; refine (size8_any Q2.out.xv (Nat.le_trans hM Q2.out.b.size)).mono ?_; rintro e w3 ⟨rfl, hb⟩; have Q3 := Lib.hid (Q2.out.bel hM hb); clear hb)
        | (go_at_call 11; refine (new11_any Q1.out.xv (Nat.le_trans hM Q1.out.b.size) Q1.out.tb HL.out).mono ?_; rintro e w2 ⟨hb, hnn⟩; rw [HRT.out] at hnn; rw [if_neg (by simp)] at hnn; subst hnn; have Q2 := Lib.hid (Q1.out.bel hM hb); obtain ⟨c0, c1, c2⟩ := Q2.out.cells; clear hb)
        | (go_at_call 9; refine (awake_any Q0.out.tb).mono ?_; rintro e w1 ⟨rfl, hb⟩; have Q1 := Lib.hid (Q0.out.bel hM hb); obtain ⟨c0, c1, c2⟩ := Q1.out.cells; clear hb))
      go_ret
      exact ⟨rfl, Q3.out.b⟩
  · by_cases hln : (40 : Int) < (m : Int)
    · cases hrt : x.right with
      | true =>
        have HRT := Lib.hid hrt
        clear hrt
        go_enter Tryd.func7, Tryd.ntmps7
        go_wp2_with (first
          | (go_at_call 8; refine (size8_any Q2.out.xv (Nat.le_trans hM Q2.out.b.size)).mono ?_; rintro e w3 ⟨rfl, hb⟩; have Q3 := Lib.hid (Q2.out.bel hM hb); clear hb)
          | (go_at_call 11; refine (new11_any Q1.out.xv (Nat.le_trans hM Q1.out.b.size) Q1.out.tb HL.out).mono ?_; rintro e w2 ⟨hb, hnn⟩; rw [HRT.out] at hnn; rw [if_pos rfl] at hnn; obtain ⟨N, rfl, hn⟩ := hnn; have HNX := Lib.hid hn; clear hn; have Q2 := Lib.hid (Q1.out.bel hM hb); obtain ⟨c0, c1, c2⟩ := Q2.out.cells; clear hb)
          | (go_at_call 9; refine (awake_any Q0.out.tb).mono ?_; rintro e w1 ⟨rfl, hb⟩; have Q1 := Lib.hid (Q0.out.bel hM hb); obtain ⟨c0, c1, c2⟩ := Q1.out.cells; clear hb))
        go_ret
        exact ⟨rfl, Q3.out.b⟩
      | false =>
        have HRT := Lib.hid hrt
        clear hrt
        go_enter Tryd.func7, Tryd.ntmps7
        go_wp2_with (first
          | (go_at_call 8; refine (size8_any Q2.out.xv (Nat.le_trans hM Q2.out.b.size)).mono ?_; rintro e w3 ⟨rfl, hb⟩; have Q3 := Lib.hid (Q2.out.bel hM hb); clear hb)
          | (go_at_call 11; refine (new11_any Q1.out.xv (Nat.le_trans hM Q1.out.b.size) Q1.out.tb HL.out).mono ?_; rintro e w2 ⟨hb, hnn⟩; rw [HRT.out] at hnn; rw [if_neg (by simp)] at hnn; subst hnn; have Q2 := Lib.hid (Q1.out.bel hM hb); obtain ⟨c0, c1, c2⟩ := Q2.out.cells; clear hb)
          | (go_at_call 9; refine (awake_any Q0.out.tb).mono ?_; rintro e w1 ⟨rfl, hb⟩; have Q1 := Lib.hid (Q0.out.bel hM hb); obtain ⟨c0, c1, c2⟩ := Q1.out.cells; clear hb))
        go_ret
        exact ⟨rfl, Q3.out.b⟩
    · cases hrt : x.right with
      | false =>
        have HRT := Lib.hid hrt
        clear hrt
        go_enter Tryd.func7, Tryd.ntmps7
        go_wp2_with (first
          | (go_at_call 8; refine (size8_any Q2.out.xv (Nat.le_trans hM Q2.out.b.size)).mono ?_; rintro e w3 ⟨rfl, hb⟩; have Q3 := Lib.hid (Q2.out.bel hM hb); clear hb)
          | (go_at_call 11; refine (new11_any Q1.out.xv (Nat.le_trans hM Q1.out.b.size) Q1.out.tb HL.out).mono ?_; rintro e w2 ⟨hb, hnn⟩; rw [HRT.out] at hnn; rw [if_neg (by simp)] at hnn; subst hnn; have Q2 := Lib.hid (Q1.out.bel hM hb); obtain ⟨c0, c1, c2⟩ := Q2.out.cells; clear hb)
          | (go_at_call 9; refine (awake_any Q0.out.tb).mono ?_; rintro e w1 ⟨rfl, hb⟩; have Q1 := Lib.hid (Q0.out.bel hM hb); obtain ⟨c0, c1, c2⟩ := Q1.out.cells; clear hb))
        go_ret
        exact ⟨rfl, Q3.out.b⟩
      | true =>
        have HRT := Lib.hid hrt
        obtain ⟨hg, hs24⟩ := right_good hrt
        have hs : x.pn ≤ 24 := Nat.le_trans (pn_sz x) hs24
        have HSZ := Lib.hid (And.intro hg hs24)
        have hpw : (2 : Nat) ^ (1 + x.pn) ≤ 2 ^ 32 := Nat.pow_le_pow_right (by decide) (by omega)
        have HPW := Lib.hid hpw
        clear hrt hg hs24 hpw
        go_enter Tryd.func7, Tryd.ntmps7
        go_upto_region 10 with (first
          | (go_at_call 24; refine (last_any HN4.out Q4.out.tb hs).mono ?_; rintro e wL ⟨vl, rfl, hi, hb⟩; have HIL := Lib.hid (ListQ.ir hi); have QL := Lib.hid (Q4.out.bel hM hb); have HNL := Lib.hid (HN4.out.bel hb); have HIF := Lib.hid (HI4.out.bel hb); clear hi hb)
          | (go_at_call 14; refine (first14_any HN3.out Q3.out.tb hs).mono ?_; rintro e w4 ⟨vf, rfl, hi, hb⟩; have HI4 := Lib.hid (ListQ.ir hi); have Q4 := Lib.hid (Q3.out.bel hM hb); have HN4 := Lib.hid (HN3.out.bel hb); clear hi hb)
          | (go_at_call 8; refine (size8_any Q2.out.xv (Nat.le_trans hM Q2.out.b.size)).mono ?_; rintro e w3 ⟨rfl, hb⟩; have Q3 := Lib.hid (Q2.out.bel hM hb); have HN3 := Lib.hid (HNX.out.bel hb); clear hb)
          | (go_at_call 11; refine (new11_any Q1.out.xv (Nat.le_trans hM Q1.out.b.size) Q1.out.tb HL.out).mono ?_; rintro e w2 ⟨hb, hnn⟩; rw [HRT.out] at hnn; rw [if_pos rfl] at hnn; obtain ⟨N, rfl, hn⟩ := hnn; have HNX := Lib.hid hn; clear hn; have Q2 := Lib.hid (Q1.out.bel hM hb); obtain ⟨c0, c1, c2⟩ := Q2.out.cells; clear hb)
          | (go_at_call 9; refine (awake_any Q0.out.tb).mono ?_; rintro e w1 ⟨rfl, hb⟩; have Q1 := Lib.hid (Q0.out.bel hM hb); obtain ⟨c0, c1, c2⟩ := Q1.out.cells; clear hb))
        obtain ⟨bb, hbb⟩ : ∃ y, w1.heap.size = y := ⟨_, rfl⟩
        rw [hbb] at HNL
        obtain ⟨Al, ll, cl, hvl⟩ : ∃ Al ll cl, vl = .slice Al ll cl := (by obtain ⟨Av, cv, h, _⟩ := HIL.out; exact ⟨Av, _, cv, h⟩)
        subst hvl
        have hllen : (els (nfL x)).length = ll := (by obtain ⟨_, _, h, _⟩ := HIL.out; injection h with _ h _; rw [h]; unfold ints; rw [List.length_map])
        obtain ⟨Af, cf, hvf⟩ : ∃ Af cf, vf = .slice Af (els (nfF x 0)).length cf := (by obtain ⟨Av, cv, h, _⟩ := HIF.out; exact ⟨Av, cv, by rw [h]; unfold ints; rw [List.length_map]⟩)
        subst hvf
        have HLL := Lib.hid hllen
        clear hbb HN3 HNX HN4 HI4 Q0 Q1 Q2 Q3 Q4 hllen
        have hwL : Below w.heap.size w wL := QL.out.b
        go_loopw [9, 10, 12] (fun nv wv i wr => ∃ (k S : Nat) (uw : Wd) (An : Option Addr) (cn : Nat) (Aw : Option Addr) (cw : Nat), k ≤ m ∧ i = .int .i64 k ∧ nv = .slice An (els S).length cn ∧ wv = .slice Aw uw.length cw ∧ IR wr (.slice An (els S).length cn) (ints (els S)) ∧ wr.ownsRow wL.heap.size 9 1 (.slice Aw uw.length cw) uw.length (uw.map Value.string) ∧ Below wL.heap.size wL wr ∧ Goes x S uw ∧ (∀ q, S.testBit q = true → 1 ≤ q ∧ q ≤ x.pn) ∧ uw.length = k) (fun _ _ i _ => m - (intOf i).toNat)
        case atStart => exact ⟨0, nfF x 0, [], _, _, none, 0, Nat.zero_le _, rfl, rfl, rfl, HIF.out, World.ownsRow_nil _ _ _ _, Below.refl _ _, Goes.start x, fun q hq => nfF_range 0 q hq, rfl⟩
        case round =>
          obtain ⟨k, S, uw, An, cn, Aw, cw, hk, rfl, rfl, rfl, hir, hrow, hbw, hgo, hrg, hul⟩ := hrel
          have HRO := Lib.hid (And.intro hir (And.intro hrow (And.intro hbw (And.intro hgo (And.intro hrg hul)))))
          have hla32 : (els S).length ≤ 32 := els_len S
          clear hir hrow hbw hgo hrg hul
          by_cases hlt : k < m
          · by_cases hla : 0 < (els S).length
            · have e1 : k < ts.length := by have := HMU.out; omega
              have HWR := Lib.hid (QL.out.bel hM HRO.out.2.2.1)
              obtain ⟨ad, rfl, q⟩ := (HTI.out.bel (HWR.out.b)).at k e1
              obtain ⟨r, hr⟩ : ∃ r, Int.tmod ts[k] ((els S).length : Int) = r := ⟨_, rfl⟩
              have hra : r.natAbs < (els S).length := by rw [← hr, Int.natAbs_tmod, Int.natAbs_natCast]; exact Nat.mod_lt _ hla
              have hr1 : r < (els S).length := by omega
              have hr2 : -((els S).length : Int) < r := by omega
              clear hra
              obtain ⟨j, hj⟩ : ∃ j : Nat, max r (-r) = (j : Int) := ⟨r.natAbs, by omega⟩
              have hjl : j < (els S).length := by omega
              obtain ⟨ad2, rfl, q2⟩ := HRO.out.1.at j (by unfold ints; rw [List.length_map]; exact hjl)
              rw [ints_get hjl] at q2
              have hmem : (els S)[j] ∈ els S := List.getElem_mem hjl
              obtain ⟨p, hp⟩ : ∃ p, (els S)[j] = p := ⟨_, rfl⟩
              rw [hp] at q2 hmem
              have HPB := Lib.hid (mem_els.1 hmem).2
              have HPR := Lib.hid (HRO.out.2.2.2.2.1 p (mem_els.1 hmem).2)
              obtain ⟨la, hla'⟩ : ∃ y, (els S).length = y := ⟨_, rfl⟩
              have HLA := Lib.hid hla'
              rw [hla'] at hr hr1 hr2 hjl hla32 hla ⊢
              generalize ts[k] = t at *
              clear hp hmem hla' e1
              obtain ⟨lp, hlp⟩ : ∃ y, (nf x).1.labs[p]?.getD ⟨#[]⟩ = y := ⟨_, rfl⟩
              have hlab : labP x (p : Int) = lp := by unfold labP; rw [if_pos (by have := HPR.out; omega)]; exact hlp
              have HLB := Lib.hid (label18_any (HNL.out.bel HRO.out.2.2.1) (by omega) (p : Int))
              rw [hlab] at HLB
              obtain ⟨i9, hi9, hz9, hs9, hb9⟩ := info_parts parts9
              have HUB := Lib.hid HRO.out.2.2.2.2.2
              have hwz := HRO.out.2.2.1.size
              have HLP := Lib.hid hlp
              clear hlab hlp
              go_upto_region 15 with (first
                | (at_builtin; go_loud (refine wpList_append_own_at _ rfl _ _ 41 rfl wL.heap.size 9 i9 (.string ⟨#[]⟩) 1 16 Tryd.underlying41 hi9 hz9 hs9 hb9 rfl (by decide) (.slice Aw uw.length cw) uw.length (uw.map Value.string) rfl (HRO.out.2.1.alloc _) ⟨wr.heap.size, 0, none⟩ 1 1 [.string lp] rfl rfl (cell_one_new _ _ _) (by simp [Value.oneCell']) (by have := HUB.out; unfold maxLen; omega) (by have := HUB.out; omega) (by simp; omega) ?_; intro v' w5 hown' hgrow hnil hloc; have HAP := Lib.hid (And.intro hown' hgrow); clear hown' hgrow hnil hloc))
                | (go_at_call 18; refine HLB.out.mono ?_; rintro e w4 ⟨rfl, rfl⟩))
              obtain ⟨A6, c6, e6⟩ := row_form HAP.out.1
              subst e6
              have hb5 : Below wL.heap.size wL w5 := (HRO.out.2.2.1.alloc HRO.out.2.2.1.size _).grown HAP.out.2 (by simp; omega) (fun r er => (HRO.out.2.1.lt r er).1)
              have hown5 : w5.ownsRow wL.heap.size 9 1 (.slice A6 (uw.length + 1) c6) (uw ++ [lp]).length ((uw ++ [lp]).map Value.string) := by
                rw [List.map_append, List.length_append]
                exact HAP.out.1
              have HB5 := Lib.hid hb5
              have HO5 := Lib.hid hown5
              have HHAS := Lib.hid (has38_any (HIL.out.bel hb5) (by unfold ints; rw [List.length_map]; exact Nat.le_trans (els_len _) (by decide)) (p : Int))
              have hdec : decide ((p : Int) ∈ ints (els (nfL x))) = decide (p ∈ els (nfL x)) := decide_eq_decide.2 ints_mem
              rw [hdec] at HHAS
              obtain ⟨c0, c1, c2⟩ := (QL.out.bel hM hb5).cells
              have hfol : folP x (p : Int) = els (nfF x p) := by unfold folP; rw [if_pos (by have := HPR.out; omega)]; rfl
              have HFO := Lib.hid hfol
              clear hdec hfol hb5 hown5 HLB HTI
              by_cases hpl : p ∈ els (nfL x)
              · rw [decide_eq_true hpl] at HHAS
                have htk := HRO.out.2.2.2.1.takes HRT.out HPB.out hpl
                rw [HLP.out] at htk
                have HTK := Lib.hid (takes20_any (N := M) (M := w5.heap.size) ((QL.out.bel hM HB5.out).xv) (Nat.le_trans hM (Nat.le_trans QL.out.b.size HB5.out.size)) (by have := HSZ.out.2; omega) HL.out (SR.of_own HO5.out) (Nat.le_refl _) (by have := HUB.out; rw [List.length_append, List.length_singleton]; omega))
                rw [htk] at HTK
                clear htk hpl
                go_upto_region 17 with (first
                  | (go_at_call 39; refine HTK.out.mono ?_; rintro e w6 ⟨rfl, hb⟩; have HB6 := Lib.hid (HB5.out.trans (hb.mono HB5.out.size)); have HO6 := Lib.hid (own_bel HO5.out hb); clear hb)
                  | (go_at_call 38; refine HHAS.out.mono ?_; rintro e w6 ⟨rfl, rfl⟩))
                clear c0 c1 c2
                have hfl := follow_any (HNL.out.bel HB6.out) (QL.out.tb.below HB6.out QL.out.tb.pos) hs (p : Int)
                rw [HFO.out] at hfl
                unfold ListQ at hfl
                have HFL := Lib.hid hfl
                clear hfl
                go_upto_region 18 with (go_at_call 21; refine HFL.out.mono ?_; rintro e w7 ⟨vn, rfl, hi, hb⟩; have HB7 := Lib.hid (HB6.out.trans (hb.mono HB6.out.size)); have HO7 := Lib.hid (own_bel HO6.out hb); have HI7 := Lib.hid (ListQ.ir hi); clear hi hb)
                have hba := (Below.refl _ w7).alloc (Nat.le_refl _) (.cells #[.int .i64 (p : Int)] 3)
                have hst := step27_any (HNL.out.bel (HB7.out.trans (hba.mono HB7.out.size))) (QL.out.tb.below (HB7.out.trans (hba.mono HB7.out.size)) QL.out.tb.pos) hs (IR.lit1 w7 (p : Int)) (by simp) s
                obtain ⟨St, hSt⟩ : ∃ y, stepN (nf x).1.labs (nfF x) (knN x [(p : Int)]) s = y := ⟨_, rfl⟩
                rw [hSt] at hst
                have hone0 := fun m => step_one hs (p := p) (by have := HPR.out; omega) (HPR.out.2) s (m := m)
                rw [hSt] at hone0
                have HONE := Lib.hid hone0
                clear hone0
                unfold ListQ at hst
                have HST := Lib.hid hst
                have HBA := Lib.hid hba
                clear hst hSt hba
                go_upto_region 20 with (go_at_call 27; refine HST.out.mono ?_; rintro e w8 ⟨vt, rfl, hi, hb⟩; have HB8 := Lib.hid (HB7.out.trans ((HBA.out.trans (hb.mono HBA.out.size)).mono HB7.out.size)); have HO8 := Lib.hid (own_bel (own_bel HO7.out HBA.out) hb); have HI8 := Lib.hid ((HI7.out.bel HBA.out).bel hb); have HT8 := Lib.hid (ListQ.ir hi); clear hi hb)
                obtain ⟨An7, cn7, hvn⟩ : ∃ An cn, vn = .slice An (els (nfF x p)).length cn := (by obtain ⟨Av, cv, h, _⟩ := HI8.out; exact ⟨Av, cv, by rw [h]; unfold ints; rw [List.length_map]⟩)
                subst hvn
                have HNX8 := Lib.hid (HNL.out.bel HB8.out)
                have HLEN8 := Lib.hid (len_any HNX8.out (by omega))
                have HHT := Lib.hid (fun q => has38_any HT8.out (by unfold ints; rw [List.length_map]; exact Nat.le_trans (els_len _) (by decide)) q)
                have HHN := Lib.hid (fun q => has38_any HI8.out (by unfold ints; rw [List.length_map]; exact Nat.le_trans (els_len _) (by decide)) q)
                have HFIN := Lib.hid (show Goes x (nfF x p) (uw ++ [lp]) ∧ (∀ q, (nfF x p).testBit q = true → 1 ≤ q ∧ q ≤ x.pn) ∧ (uw ++ [lp]).length = k + 1 from ⟨(by have h := HRO.out.2.2.2.1.step HPB.out (by have := HPR.out; omega); rw [HLP.out] at h; exact h), fun q hq => nfF_range p q hq, (by rw [List.length_append, List.length_singleton, HUB.out])⟩)
                go_loopw [16] (fun i wq => ∃ mm : Nat, 1 ≤ mm ∧ mm ≤ x.pn + 1 ∧ i = .int .i64 mm ∧ w8 = wq) (fun i _ => x.pn + 1 - (intOf i).toNat)
                case atStart => exact ⟨1, Nat.le_refl _, by omega, rfl, rfl⟩
                case round =>
                  obtain ⟨mm, hm1, hm2, rfl, rfl⟩ := hrel
                  by_cases hlm : mm ≤ x.pn
                  · have hht := HHT.out (mm : Int)
                    have hhn := HHN.out (mm : Int)
                    rw [show decide ((mm : Int) ∈ ints (els St)) = decide (mm ∈ els St) from decide_eq_decide.2 ints_mem] at hht
                    rw [show decide ((mm : Int) ∈ ints (els (nfF x p))) = decide (mm ∈ els (nfF x p)) from decide_eq_decide.2 ints_mem] at hhn
                    have hone := HONE.out mm
                    have hlb := label18_any HNX8.out (by omega) (mm : Int)
                    rw [show labP x (mm : Int) = (nf x).1.labs[mm]?.getD ⟨#[]⟩ by unfold labP; rw [if_pos (by omega)]; rfl] at hlb
                    generalize (nf x).1.labs[mm]?.getD ⟨#[]⟩ = lm at hone hlb
                    by_cases hb2 : mm ∈ els (nfF x p)
                    · rw [decide_eq_true hb2] at hhn
                      by_cases hls : lm = s
                      · rw [decide_eq_true (hone.2 ⟨hb2, hls⟩)] at hht
                        subst hls
                        have H1 := Lib.hid (And.intro hht (And.intro hhn hlb))
                        clear hht hhn hlb hone hb2
                        go_wp2_with (first
                          | (go_at_call 16; refine HLEN8.out.mono ?_; rintro e w9 ⟨rfl, rfl⟩)
                          | (go_at_call 18; refine H1.out.2.2.mono ?_; rintro e w9 ⟨rfl, rfl⟩)
                          | (go_at_call 38; first | (with_reducible refine H1.out.1.mono ?_; rintro e w9 ⟨rfl, rfl⟩) | (with_reducible refine H1.out.2.1.mono ?_; rintro e w9 ⟨rfl, rfl⟩)))
                        go_roundw
                        case rel => exact ⟨mm + 1, by omega, by omega, by go_num, trivial⟩
                        case measure => simp [intOf]; omega
                      · rw [decide_eq_false (fun h => hls (hone.1 h).2)] at hht
                        have hne : (lm.toList == s.toList) = false := beq_eq_false_iff_ne.2 (fun h => hls (by
                          have : lm.data.toList = s.data.toList := by rw [← ByteArray.toList_eq, ← ByteArray.toList_eq]; exact h
                          exact ByteArray.ext (Array.toList_inj.1 this)))
                        have H1 := Lib.hid (And.intro hht (And.intro hhn hlb))
                        clear hht hhn hlb hone hb2 hls
                        go_wp2_with (first
                          | (go_at_call 16; refine HLEN8.out.mono ?_; rintro e w9 ⟨rfl, rfl⟩)
                          | (go_at_call 18; refine H1.out.2.2.mono ?_; rintro e w9 ⟨rfl, rfl⟩)
                          | (go_at_call 38; first | (with_reducible refine H1.out.1.mono ?_; rintro e w9 ⟨rfl, rfl⟩) | (with_reducible refine H1.out.2.1.mono ?_; rintro e w9 ⟨rfl, rfl⟩)))
                        go_roundw
                        case rel => exact ⟨mm + 1, by omega, by omega, by go_num, trivial⟩
                        case measure => simp [intOf]; omega
                    · rw [decide_eq_false hb2] at hhn
                      rw [decide_eq_false (fun h => hb2 (hone.1 h).1)] at hht
                      have H1 := Lib.hid (And.intro hht (And.intro hhn hlb))
                      clear hht hhn hlb hone hb2
                      go_wp2_with (first
                        | (go_at_call 16; refine HLEN8.out.mono ?_; rintro e w9 ⟨rfl, rfl⟩)
                        | (go_at_call 38; first | (with_reducible refine H1.out.1.mono ?_; rintro e w9 ⟨rfl, rfl⟩) | (with_reducible refine H1.out.2.1.mono ?_; rintro e w9 ⟨rfl, rfl⟩)))
                      go_roundw
                      case rel => exact ⟨mm + 1, by omega, by omega, by go_num, trivial⟩
                      case measure => simp [intOf]; omega
                  · go_wp2_with (go_at_call 16; refine HLEN8.out.mono ?_; rintro e w9 ⟨rfl, rfl⟩)
                    go_roundw
                    case rel => exact ⟨k + 1, nfF x p, uw ++ [lp], _, _, A6, c6, by omega, by go_num, rfl, by rw [List.length_append, List.length_singleton], HI8.out, (by have h := HO8.out; rw [List.length_append, List.length_singleton] at h ⊢; exact h), HB8.out, HFIN.out.1, HFIN.out.2.1, HFIN.out.2.2⟩
                    case measure => simp [intOf]; omega
              · rw [decide_eq_false hpl] at HHAS
                clear hpl
                go_upto_region 17 with (go_at_call 38; refine HHAS.out.mono ?_; rintro e w6 ⟨rfl, rfl⟩)
                have HB6 := HB5
                have HO6 := HO5
                obtain ⟨w6, hw6⟩ : ∃ y, w5 = y := ⟨_, rfl⟩
                rw [hw6] at HB6 HO6 ⊢
                clear hw6
                clear c0 c1 c2
                have hfl := follow_any (HNL.out.bel HB6.out) (QL.out.tb.below HB6.out QL.out.tb.pos) hs (p : Int)
                rw [HFO.out] at hfl
                unfold ListQ at hfl
                have HFL := Lib.hid hfl
                clear hfl
                go_upto_region 18 with (go_at_call 21; refine HFL.out.mono ?_; rintro e w7 ⟨vn, rfl, hi, hb⟩; have HB7 := Lib.hid (HB6.out.trans (hb.mono HB6.out.size)); have HO7 := Lib.hid (own_bel HO6.out hb); have HI7 := Lib.hid (ListQ.ir hi); clear hi hb)
                have hba := (Below.refl _ w7).alloc (Nat.le_refl _) (.cells #[.int .i64 (p : Int)] 3)
                have hst := step27_any (HNL.out.bel (HB7.out.trans (hba.mono HB7.out.size))) (QL.out.tb.below (HB7.out.trans (hba.mono HB7.out.size)) QL.out.tb.pos) hs (IR.lit1 w7 (p : Int)) (by simp) s
                obtain ⟨St, hSt⟩ : ∃ y, stepN (nf x).1.labs (nfF x) (knN x [(p : Int)]) s = y := ⟨_, rfl⟩
                rw [hSt] at hst
                have hone0 := fun m => step_one hs (p := p) (by have := HPR.out; omega) (HPR.out.2) s (m := m)
                rw [hSt] at hone0
                have HONE := Lib.hid hone0
                clear hone0
                unfold ListQ at hst
                have HST := Lib.hid hst
                have HBA := Lib.hid hba
                clear hst hSt hba
                go_upto_region 20 with (go_at_call 27; refine HST.out.mono ?_; rintro e w8 ⟨vt, rfl, hi, hb⟩; have HB8 := Lib.hid (HB7.out.trans ((HBA.out.trans (hb.mono HBA.out.size)).mono HB7.out.size)); have HO8 := Lib.hid (own_bel (own_bel HO7.out HBA.out) hb); have HI8 := Lib.hid ((HI7.out.bel HBA.out).bel hb); have HT8 := Lib.hid (ListQ.ir hi); clear hi hb)
                obtain ⟨An7, cn7, hvn⟩ : ∃ An cn, vn = .slice An (els (nfF x p)).length cn := (by obtain ⟨Av, cv, h, _⟩ := HI8.out; exact ⟨Av, cv, by rw [h]; unfold ints; rw [List.length_map]⟩)
                subst hvn
                have HNX8 := Lib.hid (HNL.out.bel HB8.out)
                have HLEN8 := Lib.hid (len_any HNX8.out (by omega))
                have HHT := Lib.hid (fun q => has38_any HT8.out (by unfold ints; rw [List.length_map]; exact Nat.le_trans (els_len _) (by decide)) q)
                have HHN := Lib.hid (fun q => has38_any HI8.out (by unfold ints; rw [List.length_map]; exact Nat.le_trans (els_len _) (by decide)) q)
                have HFIN := Lib.hid (show Goes x (nfF x p) (uw ++ [lp]) ∧ (∀ q, (nfF x p).testBit q = true → 1 ≤ q ∧ q ≤ x.pn) ∧ (uw ++ [lp]).length = k + 1 from ⟨(by have h := HRO.out.2.2.2.1.step HPB.out (by have := HPR.out; omega); rw [HLP.out] at h; exact h), fun q hq => nfF_range p q hq, (by rw [List.length_append, List.length_singleton, HUB.out])⟩)
                go_loopw [16] (fun i wq => ∃ mm : Nat, 1 ≤ mm ∧ mm ≤ x.pn + 1 ∧ i = .int .i64 mm ∧ w8 = wq) (fun i _ => x.pn + 1 - (intOf i).toNat)
                case atStart => exact ⟨1, Nat.le_refl _, by omega, rfl, rfl⟩
                case round =>
                  obtain ⟨mm, hm1, hm2, rfl, rfl⟩ := hrel
                  by_cases hlm : mm ≤ x.pn
                  · have hht := HHT.out (mm : Int)
                    have hhn := HHN.out (mm : Int)
                    rw [show decide ((mm : Int) ∈ ints (els St)) = decide (mm ∈ els St) from decide_eq_decide.2 ints_mem] at hht
                    rw [show decide ((mm : Int) ∈ ints (els (nfF x p))) = decide (mm ∈ els (nfF x p)) from decide_eq_decide.2 ints_mem] at hhn
                    have hone := HONE.out mm
                    have hlb := label18_any HNX8.out (by omega) (mm : Int)
                    rw [show labP x (mm : Int) = (nf x).1.labs[mm]?.getD ⟨#[]⟩ by unfold labP; rw [if_pos (by omega)]; rfl] at hlb
                    generalize (nf x).1.labs[mm]?.getD ⟨#[]⟩ = lm at hone hlb
                    by_cases hb2 : mm ∈ els (nfF x p)
                    · rw [decide_eq_true hb2] at hhn
                      by_cases hls : lm = s
                      · rw [decide_eq_true (hone.2 ⟨hb2, hls⟩)] at hht
                        subst hls
                        have H1 := Lib.hid (And.intro hht (And.intro hhn hlb))
                        clear hht hhn hlb hone hb2
                        go_wp2_with (first
                          | (go_at_call 16; refine HLEN8.out.mono ?_; rintro e w9 ⟨rfl, rfl⟩)
                          | (go_at_call 18; refine H1.out.2.2.mono ?_; rintro e w9 ⟨rfl, rfl⟩)
                          | (go_at_call 38; first | (with_reducible refine H1.out.1.mono ?_; rintro e w9 ⟨rfl, rfl⟩) | (with_reducible refine H1.out.2.1.mono ?_; rintro e w9 ⟨rfl, rfl⟩)))
                        go_roundw
                        case rel => exact ⟨mm + 1, by omega, by omega, by go_num, trivial⟩
                        case measure => simp [intOf]; omega
                      · rw [decide_eq_false (fun h => hls (hone.1 h).2)] at hht
                        have hne : (lm.toList == s.toList) = false := beq_eq_false_iff_ne.2 (fun h => hls (by
                          have : lm.data.toList = s.data.toList := by rw [← ByteArray.toList_eq, ← ByteArray.toList_eq]; exact h
                          exact ByteArray.ext (Array.toList_inj.1 this)))
                        have H1 := Lib.hid (And.intro hht (And.intro hhn hlb))
                        clear hht hhn hlb hone hb2 hls
                        go_wp2_with (first
                          | (go_at_call 16; refine HLEN8.out.mono ?_; rintro e w9 ⟨rfl, rfl⟩)
                          | (go_at_call 18; refine H1.out.2.2.mono ?_; rintro e w9 ⟨rfl, rfl⟩)
                          | (go_at_call 38; first | (with_reducible refine H1.out.1.mono ?_; rintro e w9 ⟨rfl, rfl⟩) | (with_reducible refine H1.out.2.1.mono ?_; rintro e w9 ⟨rfl, rfl⟩)))
                        go_roundw
                        case rel => exact ⟨mm + 1, by omega, by omega, by go_num, trivial⟩
                        case measure => simp [intOf]; omega
                    · rw [decide_eq_false hb2] at hhn
                      rw [decide_eq_false (fun h => hb2 (hone.1 h).1)] at hht
                      have H1 := Lib.hid (And.intro hht (And.intro hhn hlb))
                      clear hht hhn hlb hone hb2
                      go_wp2_with (first
                        | (go_at_call 16; refine HLEN8.out.mono ?_; rintro e w9 ⟨rfl, rfl⟩)
                        | (go_at_call 38; first | (with_reducible refine H1.out.1.mono ?_; rintro e w9 ⟨rfl, rfl⟩) | (with_reducible refine H1.out.2.1.mono ?_; rintro e w9 ⟨rfl, rfl⟩)))
                      go_roundw
                      case rel => exact ⟨mm + 1, by omega, by omega, by go_num, trivial⟩
                      case measure => simp [intOf]; omega
                  · go_wp2_with (go_at_call 16; refine HLEN8.out.mono ?_; rintro e w9 ⟨rfl, rfl⟩)
                    go_roundw
                    case rel => exact ⟨k + 1, nfF x p, uw ++ [lp], _, _, A6, c6, by omega, by go_num, rfl, by rw [List.length_append, List.length_singleton], HI8.out, (by have h := HO8.out; rw [List.length_append, List.length_singleton] at h ⊢; exact h), HB8.out, HFIN.out.1, HFIN.out.2.1, HFIN.out.2.2⟩
                    case measure => simp [intOf]; omega
            · have hla0 : (els S).length = 0 := by omega
              rw [hla0]
              clear hla hla32 hla0
              go_upto_region 24 with (fail)
              have D0 := Lib.hid (QL.out.bel hM HRO.out.2.2.1)
              have hneg1 := first_pos HSZ.out.1 hs
              have hneg2 := last_pos HSZ.out.1 hs
              have HS := Lib.hid (fun W (hW : Below wr.heap.size wr W) => (D0.out.bel hM hW).cells)
              have P0 := Lib.hid (show Below wr.heap.size wr wr.drew from (Below.refl _ wr).drew)
              have HE1 := Lib.hid (len_any (HNL.out.bel (HRO.out.2.2.1.trans (P0.out.mono HRO.out.2.2.1.size))) (by omega))
              have hl0 : 0 < ll := by have := HLL.out; omega
              obtain ⟨lf, hlf⟩ : ∃ y, (els (nfF x 0)).length = y := ⟨_, rfl⟩
              have hf0 : 0 < lf := by omega
              have HLF := Lib.hid hlf
              clear hneg1 hneg2 hlf
              refine wp_region_noPanic ?_
              refine wp_region_held_drew (S := fun W => W.cell? ⟨w.heap.size, 0, none⟩ = some (.int .i64 x.kind) ∧ W.cell? ⟨w.heap.size, 1, none⟩ = some (.string x.lab) ∧ W.cell? ⟨w.heap.size, 2, none⟩ = some (.slice A n c)) (by kernel_rfl) (HS.out _ P0.out) (fun hHeld => ?_)
              clear hHeld
              obtain ⟨r0, hr0⟩ : ∃ y, wr.drew = y := ⟨_, rfl⟩
              rw [hr0] at P0 HE1 ⊢
              clear hr0
              refine wpAnyH_take (i := 0) (v := .pointer (some ⟨N, 0, none⟩)) rfl (by kernel_rfl) (by kernel_rfl) (by kernel_rfl) (fun _ _ _ h => (h : False).elim) (Or.inl ⟨by rfl, ?_⟩) (HS.out _ P0.out) ?_
              · intro w hSw
                obtain ⟨hs0, hs1, hs2⟩ := hSw
                go_simp
              try simp only [Act.put, List.getElem_toArray, List.getElem_cons_zero, List.getElem_cons_succ, List.setIfInBounds_toArray, List.set_cons_zero, List.set_cons_succ]
              refine wpAnyH_take (i := 2) (v := .agg #[.int .i64 x.kind, .string x.lab, .slice A n c]) rfl (by kernel_rfl) (by kernel_rfl) (by kernel_rfl) (fun _ _ _ h => (h : False).elim) (Or.inl ⟨by rfl, ?_⟩) (HS.out _ P0.out) ?_
              · intro w hSw
                obtain ⟨hs0, hs1, hs2⟩ := hSw
                go_simp
              try simp only [Act.put, List.getElem_toArray, List.getElem_cons_zero, List.getElem_cons_succ, List.setIfInBounds_toArray, List.set_cons_zero, List.set_cons_succ]
              refine wpAnyH_ready (rs := [1]) (by kernel_rfl) (by simp) ?_
              refine AllReadyH.cons rfl (fun K hK => ?_) AllReadyH.nil
              go_simp
              refine HE1.out.mono ?_
              rintro e r1 ⟨rfl, rfl⟩
              refine hK.out _ _ (HS.out _ P0.out) (fun _ => ?_)
              clear hK
              try simp only [Act.put, List.getElem_toArray, List.getElem_cons_zero, List.getElem_cons_succ, List.setIfInBounds_toArray, List.set_cons_zero, List.set_cons_succ]
              refine wpAnyH_ready (rs := [3]) (by kernel_rfl) (by simp) ?_
              refine AllReadyH.cons rfl (fun K hK => ?_) AllReadyH.nil
              go_simp
              refine (labels41_any x (by have := HSZ.out.2; omega) _ _ _ (D0.out.bel hM P0.out).xv (Nat.le_trans hM (D0.out.bel hM P0.out).b.size)).mono ?_
              rintro e r1 ⟨rfl, hb⟩
              have P1 := Lib.hid (P0.out.trans (hb.mono P0.out.size))
              clear hb
              refine hK.out _ _ (HS.out _ P1.out) (fun _ => ?_)
              clear hK
              try simp only [Act.put, List.getElem_toArray, List.getElem_cons_zero, List.getElem_cons_succ, List.setIfInBounds_toArray, List.set_cons_zero, List.set_cons_succ]
              refine wpAnyH_take (i := 4) (v := .bool true) rfl (by kernel_rfl) (by kernel_rfl) (by kernel_rfl) (fun _ _ _ h => (h : False).elim) (Or.inl ⟨by rfl, ?_⟩) (HS.out _ P1.out) ?_
              · intro w hSw
                obtain ⟨hs0, hs1, hs2⟩ := hSw
                go_simp
              try simp only [Act.put, List.getElem_toArray, List.getElem_cons_zero, List.getElem_cons_succ, List.setIfInBounds_toArray, List.set_cons_zero, List.set_cons_succ]
              refine wpAnyH_take (i := 5) (v := .bool true) rfl (by kernel_rfl) (by kernel_rfl) (by kernel_rfl) (fun _ _ _ h => (h : False).elim) (Or.inl ⟨by rfl, ?_⟩) (HS.out _ P1.out) ?_
              · intro w hSw
                obtain ⟨hs0, hs1, hs2⟩ := hSw
                go_simp
              try simp only [Act.put, List.getElem_toArray, List.getElem_cons_zero, List.getElem_cons_succ, List.setIfInBounds_toArray, List.set_cons_zero, List.set_cons_succ]
              refine wpAnyH_take (i := 6) (v := .pointer (some ⟨N, 0, none⟩)) rfl (by kernel_rfl) (by kernel_rfl) (by kernel_rfl) (fun _ _ _ h => (h : False).elim) (Or.inl ⟨by rfl, ?_⟩) (HS.out _ P1.out) ?_
              · intro w hSw
                obtain ⟨hs0, hs1, hs2⟩ := hSw
                go_simp
              try simp only [Act.put, List.getElem_toArray, List.getElem_cons_zero, List.getElem_cons_succ, List.setIfInBounds_toArray, List.set_cons_zero, List.set_cons_succ]
              refine wpAnyH_ready (rs := [7]) (by kernel_rfl) (by simp) ?_
              refine AllReadyH.cons rfl (fun K hK => ?_) AllReadyH.nil
              go_simp
              refine (first14_any (HNL.out.bel (HRO.out.2.2.1.trans (P1.out.mono HRO.out.2.2.1.size))) (D0.out.bel hM P1.out).tb hs).mono ?_
              rintro e r2 ⟨vf2, rfl, hi, hb⟩
              have P2 := Lib.hid (P1.out.trans (hb.mono P1.out.size))
              obtain ⟨Ag, cg, hvg⟩ : ∃ Av cv, vf2 = .slice Av lf cv := (by obtain ⟨Av, cv, h, _⟩ := (ListQ.ir hi); exact ⟨Av, cv, by rw [h]; unfold ints; rw [List.length_map, HLF.out]⟩)
              subst hvg
              clear hb hi
              refine hK.out _ _ (HS.out _ P2.out) (fun _ => ?_)
              clear hK
              try simp only [Act.put, List.getElem_toArray, List.getElem_cons_zero, List.getElem_cons_succ, List.setIfInBounds_toArray, List.set_cons_zero, List.set_cons_succ]
              refine wpAnyH_take (i := 8) (v := .int .i64 lf) rfl (by kernel_rfl) (by kernel_rfl) (by kernel_rfl) (fun _ _ _ h => (h : False).elim) (Or.inl ⟨by rfl, ?_⟩) (HS.out _ P2.out) ?_
              · intro w hSw
                obtain ⟨hs0, hs1, hs2⟩ := hSw
                go_simp
              try simp only [Act.put, List.getElem_toArray, List.getElem_cons_zero, List.getElem_cons_succ, List.setIfInBounds_toArray, List.set_cons_zero, List.set_cons_succ]
              refine wpAnyH_take (i := 9) (v := .bool true) rfl (by kernel_rfl) (by kernel_rfl) (by kernel_rfl) (fun _ _ _ h => (h : False).elim) (Or.inl ⟨by rfl, ?_⟩) (HS.out _ P2.out) ?_
              · intro w hSw
                obtain ⟨hs0, hs1, hs2⟩ := hSw
                go_simp
                try omega
              try simp only [Act.put, List.getElem_toArray, List.getElem_cons_zero, List.getElem_cons_succ, List.setIfInBounds_toArray, List.set_cons_zero, List.set_cons_succ]
              refine wpAnyH_take (i := 10) (v := .bool true) rfl (by kernel_rfl) (by kernel_rfl) (by kernel_rfl) (fun _ _ _ h => (h : False).elim) (Or.inl ⟨by rfl, ?_⟩) (HS.out _ P2.out) ?_
              · intro w hSw
                obtain ⟨hs0, hs1, hs2⟩ := hSw
                go_simp
              try simp only [Act.put, List.getElem_toArray, List.getElem_cons_zero, List.getElem_cons_succ, List.setIfInBounds_toArray, List.set_cons_zero, List.set_cons_succ]
              refine wpAnyH_take (i := 11) (v := .bool true) rfl (by kernel_rfl) (by kernel_rfl) (by kernel_rfl) (fun _ _ _ h => (h : False).elim) (Or.inl ⟨by rfl, ?_⟩) (HS.out _ P2.out) ?_
              · intro w hSw
                obtain ⟨hs0, hs1, hs2⟩ := hSw
                go_simp
              try simp only [Act.put, List.getElem_toArray, List.getElem_cons_zero, List.getElem_cons_succ, List.setIfInBounds_toArray, List.set_cons_zero, List.set_cons_succ]
              refine wpAnyH_take (i := 12) (v := .slice Al ll cl) rfl (by kernel_rfl) (by kernel_rfl) (by kernel_rfl) (fun _ _ _ h => (h : False).elim) (Or.inl ⟨by rfl, ?_⟩) (HS.out _ P2.out) ?_
              · intro w hSw
                obtain ⟨hs0, hs1, hs2⟩ := hSw
                go_simp
              try simp only [Act.put, List.getElem_toArray, List.getElem_cons_zero, List.getElem_cons_succ, List.setIfInBounds_toArray, List.set_cons_zero, List.set_cons_succ]
              refine wpAnyH_take (i := 13) (v := .int .i64 ll) rfl (by kernel_rfl) (by kernel_rfl) (by kernel_rfl) (fun _ _ _ h => (h : False).elim) (Or.inl ⟨by rfl, ?_⟩) (HS.out _ P2.out) ?_
              · intro w hSw
                obtain ⟨hs0, hs1, hs2⟩ := hSw
                go_simp
              try simp only [Act.put, List.getElem_toArray, List.getElem_cons_zero, List.getElem_cons_succ, List.setIfInBounds_toArray, List.set_cons_zero, List.set_cons_succ]
              refine wpAnyH_take (i := 14) (v := .bool true) rfl (by kernel_rfl) (by kernel_rfl) (by kernel_rfl) (fun _ _ _ h => (h : False).elim) (Or.inl ⟨by rfl, ?_⟩) (HS.out _ P2.out) ?_
              · intro w hSw
                obtain ⟨hs0, hs1, hs2⟩ := hSw
                go_simp
                try omega
              try simp only [Act.put, List.getElem_toArray, List.getElem_cons_zero, List.getElem_cons_succ, List.setIfInBounds_toArray, List.set_cons_zero, List.set_cons_succ]
              refine wpAnyH_take (i := 15) (v := .bool true) rfl (by kernel_rfl) (by kernel_rfl) (by kernel_rfl) (fun _ _ _ h => (h : False).elim) (Or.inl ⟨by rfl, ?_⟩) (HS.out _ P2.out) ?_
              · intro w hSw
                obtain ⟨hs0, hs1, hs2⟩ := hSw
                go_simp
              try simp only [Act.put, List.getElem_toArray, List.getElem_cons_zero, List.getElem_cons_succ, List.setIfInBounds_toArray, List.set_cons_zero, List.set_cons_succ]
              refine wpAnyH_take (i := 16) (v := .bool true) rfl (by kernel_rfl) (by kernel_rfl) (by kernel_rfl) (fun _ _ _ h => (h : False).elim) (Or.inl ⟨by rfl, ?_⟩) (HS.out _ P2.out) ?_
              · intro w hSw
                obtain ⟨hs0, hs1, hs2⟩ := hSw
                go_simp
              try simp only [Act.put, List.getElem_toArray, List.getElem_cons_zero, List.getElem_cons_succ, List.setIfInBounds_toArray, List.set_cons_zero, List.set_cons_succ]
              refine ⟨by kernel_rfl, ?_⟩
              refine NoPanic.normal ?_
              go_wp2_with fail
              go_ret
              exact ⟨rfl, D0.out.b.trans (P2.out.mono D0.out.b.size)⟩
          · clear hla32
            go_upto_region 24 with (fail)
            have D0 := Lib.hid (QL.out.bel hM HRO.out.2.2.1)
            have hneg1 := first_pos HSZ.out.1 hs
            have hneg2 := last_pos HSZ.out.1 hs
            have HS := Lib.hid (fun W (hW : Below wr.heap.size wr W) => (D0.out.bel hM hW).cells)
            have P0 := Lib.hid (show Below wr.heap.size wr wr.drew from (Below.refl _ wr).drew)
            have HE1 := Lib.hid (len_any (HNL.out.bel (HRO.out.2.2.1.trans (P0.out.mono HRO.out.2.2.1.size))) (by omega))
            have hl0 : 0 < ll := by have := HLL.out; omega
            obtain ⟨lf, hlf⟩ : ∃ y, (els (nfF x 0)).length = y := ⟨_, rfl⟩
            have hf0 : 0 < lf := by omega
            have HLF := Lib.hid hlf
            clear hneg1 hneg2 hlf
            refine wp_region_noPanic ?_
            refine wp_region_held_drew (S := fun W => W.cell? ⟨w.heap.size, 0, none⟩ = some (.int .i64 x.kind) ∧ W.cell? ⟨w.heap.size, 1, none⟩ = some (.string x.lab) ∧ W.cell? ⟨w.heap.size, 2, none⟩ = some (.slice A n c)) (by kernel_rfl) (HS.out _ P0.out) (fun hHeld => ?_)
            clear hHeld
            obtain ⟨r0, hr0⟩ : ∃ y, wr.drew = y := ⟨_, rfl⟩
            rw [hr0] at P0 HE1 ⊢
            clear hr0
            refine wpAnyH_take (i := 0) (v := .pointer (some ⟨N, 0, none⟩)) rfl (by kernel_rfl) (by kernel_rfl) (by kernel_rfl) (fun _ _ _ h => (h : False).elim) (Or.inl ⟨by rfl, ?_⟩) (HS.out _ P0.out) ?_
            · intro w hSw
              obtain ⟨hs0, hs1, hs2⟩ := hSw
              go_simp
            try simp only [Act.put, List.getElem_toArray, List.getElem_cons_zero, List.getElem_cons_succ, List.setIfInBounds_toArray, List.set_cons_zero, List.set_cons_succ]
            refine wpAnyH_take (i := 2) (v := .agg #[.int .i64 x.kind, .string x.lab, .slice A n c]) rfl (by kernel_rfl) (by kernel_rfl) (by kernel_rfl) (fun _ _ _ h => (h : False).elim) (Or.inl ⟨by rfl, ?_⟩) (HS.out _ P0.out) ?_
            · intro w hSw
              obtain ⟨hs0, hs1, hs2⟩ := hSw
              go_simp
            try simp only [Act.put, List.getElem_toArray, List.getElem_cons_zero, List.getElem_cons_succ, List.setIfInBounds_toArray, List.set_cons_zero, List.set_cons_succ]
            refine wpAnyH_ready (rs := [1]) (by kernel_rfl) (by simp) ?_
            refine AllReadyH.cons rfl (fun K hK => ?_) AllReadyH.nil
            go_simp
            refine HE1.out.mono ?_
            rintro e r1 ⟨rfl, rfl⟩
            refine hK.out _ _ (HS.out _ P0.out) (fun _ => ?_)
            clear hK
            try simp only [Act.put, List.getElem_toArray, List.getElem_cons_zero, List.getElem_cons_succ, List.setIfInBounds_toArray, List.set_cons_zero, List.set_cons_succ]
            refine wpAnyH_ready (rs := [3]) (by kernel_rfl) (by simp) ?_
            refine AllReadyH.cons rfl (fun K hK => ?_) AllReadyH.nil
            go_simp
            refine (labels41_any x (by have := HSZ.out.2; omega) _ _ _ (D0.out.bel hM P0.out).xv (Nat.le_trans hM (D0.out.bel hM P0.out).b.size)).mono ?_
            rintro e r1 ⟨rfl, hb⟩
            have P1 := Lib.hid (P0.out.trans (hb.mono P0.out.size))
            clear hb
            refine hK.out _ _ (HS.out _ P1.out) (fun _ => ?_)
            clear hK
            try simp only [Act.put, List.getElem_toArray, List.getElem_cons_zero, List.getElem_cons_succ, List.setIfInBounds_toArray, List.set_cons_zero, List.set_cons_succ]
            refine wpAnyH_take (i := 4) (v := .bool true) rfl (by kernel_rfl) (by kernel_rfl) (by kernel_rfl) (fun _ _ _ h => (h : False).elim) (Or.inl ⟨by rfl, ?_⟩) (HS.out _ P1.out) ?_
            · intro w hSw
              obtain ⟨hs0, hs1, hs2⟩ := hSw
              go_simp
            try simp only [Act.put, List.getElem_toArray, List.getElem_cons_zero, List.getElem_cons_succ, List.setIfInBounds_toArray, List.set_cons_zero, List.set_cons_succ]
            refine wpAnyH_take (i := 5) (v := .bool true) rfl (by kernel_rfl) (by kernel_rfl) (by kernel_rfl) (fun _ _ _ h => (h : False).elim) (Or.inl ⟨by rfl, ?_⟩) (HS.out _ P1.out) ?_
            · intro w hSw
              obtain ⟨hs0, hs1, hs2⟩ := hSw
              go_simp
            try simp only [Act.put, List.getElem_toArray, List.getElem_cons_zero, List.getElem_cons_succ, List.setIfInBounds_toArray, List.set_cons_zero, List.set_cons_succ]
            refine wpAnyH_take (i := 6) (v := .pointer (some ⟨N, 0, none⟩)) rfl (by kernel_rfl) (by kernel_rfl) (by kernel_rfl) (fun _ _ _ h => (h : False).elim) (Or.inl ⟨by rfl, ?_⟩) (HS.out _ P1.out) ?_
            · intro w hSw
              obtain ⟨hs0, hs1, hs2⟩ := hSw
              go_simp
            try simp only [Act.put, List.getElem_toArray, List.getElem_cons_zero, List.getElem_cons_succ, List.setIfInBounds_toArray, List.set_cons_zero, List.set_cons_succ]
            refine wpAnyH_ready (rs := [7]) (by kernel_rfl) (by simp) ?_
            refine AllReadyH.cons rfl (fun K hK => ?_) AllReadyH.nil
            go_simp
            refine (first14_any (HNL.out.bel (HRO.out.2.2.1.trans (P1.out.mono HRO.out.2.2.1.size))) (D0.out.bel hM P1.out).tb hs).mono ?_
            rintro e r2 ⟨vf2, rfl, hi, hb⟩
            have P2 := Lib.hid (P1.out.trans (hb.mono P1.out.size))
            obtain ⟨Ag, cg, hvg⟩ : ∃ Av cv, vf2 = .slice Av lf cv := (by obtain ⟨Av, cv, h, _⟩ := (ListQ.ir hi); exact ⟨Av, cv, by rw [h]; unfold ints; rw [List.length_map, HLF.out]⟩)
            subst hvg
            clear hb hi
            refine hK.out _ _ (HS.out _ P2.out) (fun _ => ?_)
            clear hK
            try simp only [Act.put, List.getElem_toArray, List.getElem_cons_zero, List.getElem_cons_succ, List.setIfInBounds_toArray, List.set_cons_zero, List.set_cons_succ]
            refine wpAnyH_take (i := 8) (v := .int .i64 lf) rfl (by kernel_rfl) (by kernel_rfl) (by kernel_rfl) (fun _ _ _ h => (h : False).elim) (Or.inl ⟨by rfl, ?_⟩) (HS.out _ P2.out) ?_
            · intro w hSw
              obtain ⟨hs0, hs1, hs2⟩ := hSw
              go_simp
            try simp only [Act.put, List.getElem_toArray, List.getElem_cons_zero, List.getElem_cons_succ, List.setIfInBounds_toArray, List.set_cons_zero, List.set_cons_succ]
            refine wpAnyH_take (i := 9) (v := .bool true) rfl (by kernel_rfl) (by kernel_rfl) (by kernel_rfl) (fun _ _ _ h => (h : False).elim) (Or.inl ⟨by rfl, ?_⟩) (HS.out _ P2.out) ?_
            · intro w hSw
              obtain ⟨hs0, hs1, hs2⟩ := hSw
              go_simp
              try omega
            try simp only [Act.put, List.getElem_toArray, List.getElem_cons_zero, List.getElem_cons_succ, List.setIfInBounds_toArray, List.set_cons_zero, List.set_cons_succ]
            refine wpAnyH_take (i := 10) (v := .bool true) rfl (by kernel_rfl) (by kernel_rfl) (by kernel_rfl) (fun _ _ _ h => (h : False).elim) (Or.inl ⟨by rfl, ?_⟩) (HS.out _ P2.out) ?_
            · intro w hSw
              obtain ⟨hs0, hs1, hs2⟩ := hSw
              go_simp
            try simp only [Act.put, List.getElem_toArray, List.getElem_cons_zero, List.getElem_cons_succ, List.setIfInBounds_toArray, List.set_cons_zero, List.set_cons_succ]
            refine wpAnyH_take (i := 11) (v := .bool true) rfl (by kernel_rfl) (by kernel_rfl) (by kernel_rfl) (fun _ _ _ h => (h : False).elim) (Or.inl ⟨by rfl, ?_⟩) (HS.out _ P2.out) ?_
            · intro w hSw
              obtain ⟨hs0, hs1, hs2⟩ := hSw
              go_simp
            try simp only [Act.put, List.getElem_toArray, List.getElem_cons_zero, List.getElem_cons_succ, List.setIfInBounds_toArray, List.set_cons_zero, List.set_cons_succ]
            refine wpAnyH_take (i := 12) (v := .slice Al ll cl) rfl (by kernel_rfl) (by kernel_rfl) (by kernel_rfl) (fun _ _ _ h => (h : False).elim) (Or.inl ⟨by rfl, ?_⟩) (HS.out _ P2.out) ?_
            · intro w hSw
              obtain ⟨hs0, hs1, hs2⟩ := hSw
              go_simp
            try simp only [Act.put, List.getElem_toArray, List.getElem_cons_zero, List.getElem_cons_succ, List.setIfInBounds_toArray, List.set_cons_zero, List.set_cons_succ]
            refine wpAnyH_take (i := 13) (v := .int .i64 ll) rfl (by kernel_rfl) (by kernel_rfl) (by kernel_rfl) (fun _ _ _ h => (h : False).elim) (Or.inl ⟨by rfl, ?_⟩) (HS.out _ P2.out) ?_
            · intro w hSw
              obtain ⟨hs0, hs1, hs2⟩ := hSw
              go_simp
            try simp only [Act.put, List.getElem_toArray, List.getElem_cons_zero, List.getElem_cons_succ, List.setIfInBounds_toArray, List.set_cons_zero, List.set_cons_succ]
            refine wpAnyH_take (i := 14) (v := .bool true) rfl (by kernel_rfl) (by kernel_rfl) (by kernel_rfl) (fun _ _ _ h => (h : False).elim) (Or.inl ⟨by rfl, ?_⟩) (HS.out _ P2.out) ?_
            · intro w hSw
              obtain ⟨hs0, hs1, hs2⟩ := hSw
              go_simp
              try omega
            try simp only [Act.put, List.getElem_toArray, List.getElem_cons_zero, List.getElem_cons_succ, List.setIfInBounds_toArray, List.set_cons_zero, List.set_cons_succ]
            refine wpAnyH_take (i := 15) (v := .bool true) rfl (by kernel_rfl) (by kernel_rfl) (by kernel_rfl) (fun _ _ _ h => (h : False).elim) (Or.inl ⟨by rfl, ?_⟩) (HS.out _ P2.out) ?_
            · intro w hSw
              obtain ⟨hs0, hs1, hs2⟩ := hSw
              go_simp
            try simp only [Act.put, List.getElem_toArray, List.getElem_cons_zero, List.getElem_cons_succ, List.setIfInBounds_toArray, List.set_cons_zero, List.set_cons_succ]
            refine wpAnyH_take (i := 16) (v := .bool true) rfl (by kernel_rfl) (by kernel_rfl) (by kernel_rfl) (fun _ _ _ h => (h : False).elim) (Or.inl ⟨by rfl, ?_⟩) (HS.out _ P2.out) ?_
            · intro w hSw
              obtain ⟨hs0, hs1, hs2⟩ := hSw
              go_simp
            try simp only [Act.put, List.getElem_toArray, List.getElem_cons_zero, List.getElem_cons_succ, List.setIfInBounds_toArray, List.set_cons_zero, List.set_cons_succ]
            refine ⟨by kernel_rfl, ?_⟩
            refine NoPanic.normal ?_
            go_wp2_with fail
            go_ret
            exact ⟨rfl, D0.out.b.trans (P2.out.mono D0.out.b.size)⟩
end Go.Proofs.YtnccgaanfjaimaaDoor
