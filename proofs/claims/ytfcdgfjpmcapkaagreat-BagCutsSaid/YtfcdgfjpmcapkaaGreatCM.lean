/- Walk of BagCuts. -/
import Derived.Test.YtfcdgfjpmcapkaaGreatCK
import Derived.Test.YtfcdgfjpmcapkaaGreatDC
import Derived.Lib.QuietBelow
namespace Go.Proofs.YtfcdgfjpmcapkaaGreat
open Go.ChangeShapes Go.WideShapes Go.ChangeAt Go.RowKit Go.Maps Go.Shelf
set_option linter.unusedVariables false

attribute [local go_sem] Oper.semAt_some

/-- two bags of a law's own, apart from each other -/
structure Tw (lo : Nat) (W : World) (a b : Nat) (Oa Ob : Nat → Prop) (Sa Sb : List Et) (na nb : Nat) : Prop where
  ba : Bs lo W a Oa Sa na
  bb : Bs lo W b Ob Sb nb
  ap : ∀ k, Oa k → ¬ Ob k
theorem Tw.below {lo : Nat} {W W' : World} {a b : Nat} {Oa Ob : Nat → Prop} {Sa Sb : List Et} {na nb : Nat} (h : Tw lo W a b Oa Ob Sa Sb na nb) (hb : Below W.heap.size W W') : Tw lo W' a b Oa Ob Sa Sb na nb := ⟨h.ba.below hb, h.bb.below hb, h.ap⟩
theorem Bs.keep {lo : Nat} {W W' : World} {b : Nat} {O : Nat → Prop} {S : List Et} {n : Nat} (h : Bs lo W b O S n) {p : Nat → Prop} (hk : Keep p W W') (hp : ∀ k, O k → p k) : Bs lo W' b O S n := ⟨h.bag.keep hk hp, h.low, Nat.le_trans h.sz hk.size⟩
theorem Tw.nextA {lo : Nat} {W W' : World} {a b : Nat} {Oa Ob : Nat → Prop} {Sa Sb S' : List Et} {na nb n' : Nat} (h : Tw lo W a b Oa Ob Sa Sb na nb) (hb : Bag W' a (grw Oa W W') S' n') (hk : Keep (fun k => ¬ Oa k) W W') : Tw lo W' a b (grw Oa W W') Ob S' Sb n' nb ∧ Below lo W W' :=
  ⟨⟨(h.ba.next hb hk).1, h.bb.keep hk fun k ho ha => h.ap k ha ho, fun k hk' ho => by
    rcases hk' with hk' | hk'
    · exact h.ap k hk' ho
    · have := h.bb.bag.lt ho; omega⟩, (h.ba.next hb hk).2⟩
theorem Tw.nextB {lo : Nat} {W W' : World} {a b : Nat} {Oa Ob : Nat → Prop} {Sa Sb S' : List Et} {na nb n' : Nat} (h : Tw lo W a b Oa Ob Sa Sb na nb) (hb : Bag W' b (grw Ob W W') S' n') (hk : Keep (fun k => ¬ Ob k) W W') : Tw lo W' a b Oa (grw Ob W W') Sa S' na n' ∧ Below lo W W' :=
  ⟨⟨h.ba.keep hk fun k ha ho => h.ap k ha ho, (h.bb.next hb hk).1, fun k ha hk' => by
    rcases hk' with hk' | hk'
    · exact h.ap k ha hk'
    · have := h.ba.bag.lt ha; omega⟩, (h.bb.next hb hk).2⟩

/-- how a round of puts and cuts begins -/
def CtI (w : World) (l : List Et) (k0 : Nat) (c : Int) (a b : Nat) (P : List Et) (q : Nat) (W : World) : Prop :=
  ∃ Oa Ob Sb na nb, Tw w.heap.size W a b Oa Ob P Sb na nb ∧ Below w.heap.size w W ∧ na ≤ 400 ∧ nb ≤ q ∧ cutS Sb c = ((rt l k0).take q).foldl (stepC c) []
theorem CtI.put {w : World} {l : List Et} {k0 q n' : Nat} {c : Int} {a b : Nat} {P Sb : List Et} {W W' : World} {Oa Ob : Nat → Prop} {na nb : Nat} (h : Tw w.heap.size W a b Oa Ob P Sb na nb) (hb : Below w.heap.size w W) (ha : na ≤ 400) (hq : nb ≤ q) (hc : cutS Sb c = ((rt l k0).take q).foldl (stepC c) []) (hql : q < l.length)
    (hB : Bag W' b (grw Ob W W') (putsS Sb [ge (rt l k0) q]) n') (hk : Keep (fun k => ¬ Ob k) W W') (hn : n' ≤ nb + 1) : CtI w l k0 c a b P (q + 1) W' := by
  obtain ⟨h1, h2⟩ := h.nextB hB hk
  refine ⟨_, _, _, _, _, h1, hb.trans h2, ha, by omega, ?_⟩
  rw [cut_put_one h.bb.bag.sd, hc, ← step_snoc (by rw [rt_len]; exact hql)]
theorem CtI.cut {w : World} {l : List Et} {k0 q : Nat} {c d : Int} {a b : Nat} {P Sb : List Et} {W W' : World} {Oa Ob : Nat → Prop} {na nb : Nat} (h : Tw w.heap.size W a b Oa Ob P Sb na nb) (hb : Below w.heap.size w W) (ha : na ≤ 400) (hq : nb ≤ q) (hc : cutS Sb c = ((rt l k0).take q).foldl (stepC c) []) (hd : d ≤ c)
    (hB : Bag W' b (grw Ob W W') (cutS Sb d) nb) (hk : Keep (fun k => ¬ Ob k) W W') : CtI w l k0 c a b P q W' := by
  obtain ⟨h1, h2⟩ := h.nextB hB hk
  exact ⟨_, _, _, _, _, h1, hb.trans h2, ha, by omega, by rw [cut_cut hd, hc]⟩

set_option maxRecDepth 100000 in
theorem cuts_long {w : World} {v : Value} {l : List Et} (turn cut less : Int) (h : PE w v l) (hl : 400 < l.length) : Calls Tryz.prog 5 #[v, .int .i64 turn, .int .i64 cut, .int .i64 less] w (Tr w) := by
  obtain ⟨A, c, rfl, _⟩ := h
  have hl' : (400 : Int) < (l.length : Int) := by omega
  clear hl
  go_enter Tryz.func5, Tryz.ntmps5
  go_wp2_with fail
  refine (awake_any _).mono ?_
  rintro e w1 ⟨rfl, hb1⟩
  have HB := Lib.hid hb1
  clear hb1
  go_wp2_with fail
  go_ret
  exact ⟨rfl, HB.out⟩

set_option maxRecDepth 100000 in
set_option maxHeartbeats 4000000 in
theorem cuts_short {w : World} {v : Value} {l : List Et} (h : PE w v l) (hwe : ∀ k, k < l.length → We (ge l k)) (hl : l.length ≤ 400) (turn cut less : Int) (hcw : (Lit.int .i64 cut).wf = true) (hlw : (Lit.int .i64 less).wf = true) :
    Calls Tryz.prog 5 #[v, .int .i64 turn, .int .i64 cut, .int .i64 less] w (Tr w) := by
  obtain ⟨k0, hk0, hpk⟩ := pick_of turn l.length (by omega)
  have H := Lib.hid h
  have HW := Lib.hid hwe
  have HCW := Lib.hid hcw
  have HLW := Lib.hid hlw
  obtain ⟨A, c0, hv, _⟩ := h
  obtain ⟨n, hn⟩ : ∃ n, l.length = n := ⟨_, rfl⟩
  rw [hn] at hl hv hk0 hpk
  subst hv
  have HN := Lib.hid hn
  have HK := Lib.hid hk0
  have HP := Lib.hid hpk
  clear hn hwe hk0 hpk hcw hlw
  have hl' : (n : Int) ≤ 400 := by omega
  go_enter Tryz.func5, Tryz.ntmps5
  go_wp2_with fail
  refine (awake_any _).mono ?_
  rintro e wa ⟨rfl, hba⟩
  have HBA := Lib.hid hba
  clear hba
  go_wp2_with fail
  refine (new_bag _).mono ?_
  rintro e w1 ⟨a, Oa, rfl, hB1, hO1, hb1⟩
  have HS1 := Lib.hid ((Bs.of_made hB1 hO1 hb1).down HBA.out.size)
  have HB1 := Lib.hid (HBA.out.trans (hb1.mono HBA.out.size))
  have HZ1 := Lib.hid (show ∀ k, Oa k → k < w1.heap.size from fun k hk => hB1.lt hk)
  clear hB1 hO1 hb1
  go_wp2_with fail
  refine (new_bag _).mono ?_
  rintro e w2 ⟨b, Ob, rfl, hB2, hO2, hb2⟩
  have hs2 := (Bs.of_made hB2 hO2 hb2).down HB1.out.size
  have ht2 : Tw w.heap.size w2 a b Oa Ob [] [] 0 0 := ⟨HS1.out.below hb2, hs2, fun k ha hb => by have := HZ1.out k ha; have := hO2 k hb; omega⟩
  have hB2' : Below w.heap.size w w2 := HB1.out.trans (hb2.mono HB1.out.size)
  have hp2 := H.out.below hB2'
  have hoff : 0 < l.length → ∀ g, (Value.slice A n c0).ownBlock = some g → ¬ Oa g := fun hn g e hO => by
    have := H.out.lt hn g e
    have := ht2.ba.low g hO
    omega
  have HT2 := Lib.hid ht2
  have HB2 := Lib.hid hB2'
  have HP2 := Lib.hid hp2
  have HOF := Lib.hid hoff
  clear hB2 hO2 hb2 hs2 ht2 hB2' hp2 hoff
  go_wp2_with fail
  refine (put_bag HT2.out.ba.bag HP2.out HOF.out HW.out (by have := HN.out; omega)).mono ?_
  rintro e w3 ⟨rfl, na, hna, hB3, hk3⟩
  obtain ⟨ht3, hb3⟩ := HT2.out.nextA hB3 hk3
  have hI3 : CtI w l k0 cut a b (putsS [] l) 0 w3 := ⟨_, _, _, _, _, ht3, HB2.out.trans hb3, by have := HN.out; omega, Nat.le_refl _, by simp [cutS]⟩
  have HI3 := Lib.hid hI3
  have hPl : (putsS [] l).length ≤ n := by have h9 := puts_len l []; have := HN.out; simp at h9; omega
  obtain ⟨P, hP⟩ : ∃ P, putsS [] l = P := ⟨_, rfl⟩
  rw [hP] at HI3 hPl
  have HPP := Lib.hid hP
  clear hB3 hk3 ht3 hb3 hI3 hna hP
  go_wp2_with fail
  refine (HP.out _).mono ?_
  rintro e w4 ⟨rfl, hw4⟩
  obtain rfl : w3 = w4 := hw4.symm
  go_wp2_with fail
  go_loopw [12] (fun i wr => ∃ q : Nat, q ≤ n ∧ i = .int .i64 q ∧ CtI w l k0 cut a b P q wr) (fun i _ => n - (intOf i).toNat)
  case atStart => exact ⟨0, Nat.zero_le _, rfl, HI3.out⟩
  case round =>
    obtain ⟨q, hq, rfl, Oa, Ob, Sb, na, nb, htw, hbe, hna, hnb, hcs⟩ := hrel
    have HTW := Lib.hid htw
    have HBE := Lib.hid hbe
    have HCS := Lib.hid hcs
    clear htw hbe hcs
    by_cases hlt : q < n
    · have hkn : k0 < n := HK.out (by omega)
      have hm1 : 0 ≤ ((q : Int) + (k0 : Int)) % (n : Int) := Int.emod_nonneg _ (by omega)
      have hm2 : ((q : Int) + (k0 : Int)) % (n : Int) < (n : Int) := Int.emod_lt_of_pos _ (by omega)
      have hlm : (q + k0) % n < n := Nat.mod_lt _ (by omega)
      have hra := rt_at (l := l) (k := k0) (i := q) (by rw [HN.out]; exact hkn) (by rw [HN.out]; exact hlt)
      rw [HN.out] at hra
      obtain ⟨ad, e1, _, x0, x1, x2⟩ := PE.at3 (H.out.below HBE.out) (k := (q + k0) % n) (by rw [HN.out]; exact hlm)
      subst e1
      rw [← hra] at x0 x1 x2
      obtain ⟨x, hx⟩ : ∃ x, ge (rt l k0) q = x := ⟨_, rfl⟩
      rw [hx] at x0 x1 x2
      have hwx : We x := by rw [← hx]; exact rt_we HW.out q (by rw [HN.out]; exact hlt)
      have HX := Lib.hid hx
      have hbw : Below wr.heap.size wr (wr.alloc (.cells #[.string x.1, .int .i64 x.2.1, .int .i64 x.2.2] 38)) := (Below.refl _ wr).alloc (Nat.le_refl _) _
      have ht5 := HTW.out.below hbw
      have hbe5 : Below w.heap.size w (wr.alloc (.cells #[.string x.1, .int .i64 x.2.1, .int .i64 x.2.2] 38)) := HBE.out.trans (hbw.mono HBE.out.size)
      have hpa := put_bag ht5.bb.bag (pe_new wr [x] 1 1 rfl) (fun _ g e hO => by cases e; exact Nat.lt_irrefl _ (HTW.out.bb.bag.lt hO)) (fun k hk => by obtain rfl : k = 0 := by simpa using hk
                                                                                                                                                        simpa [ge] using hwx) (by simp; omega)
      have HT5 := Lib.hid ht5
      have HBE5 := Lib.hid hbe5
      have HPA := Lib.hid hpa
      clear hx hra hlm hwx hbw ht5 hbe5 hpa
      go_wp2_with fail
      refine HPA.out.mono ?_
      rintro e w6 ⟨rfl, n', hn', hB6, hk6⟩
      have hi6 := CtI.put (n' := n') HT5.out HBE5.out hna hnb HCS.out (by rw [HN.out]; exact hlt) (by rw [HX.out]; exact hB6) hk6 (by simpa using hn')
      have HI6 := Lib.hid hi6
      clear hB6 hk6 hi6 hn' x0 x1 x2
      by_cases hle : less ≤ cut
      · by_cases hq3 : (q : Int) % 3 = 0
        · obtain ⟨Oa6, Ob6, Sb6, na6, nb6, ht6, hb6, hna6, hnb6, hc6⟩ := HI6.out
          have HT6 := Lib.hid ht6
          have HB6 := Lib.hid hb6
          have HC6 := Lib.hid hc6
          clear ht6 hb6 hc6
          go_wp2_with fail
          refine (cut_bag HT6.out.bb.bag (by omega) less HLW.out).mono ?_
          rintro e w7 ⟨rfl, hB7, hk7⟩
          have hi7 := CtI.cut HT6.out HB6.out hna6 hnb6 HC6.out hle hB7 hk7
          have HI7 := Lib.hid hi7
          clear hB7 hk7 hi7
          go_wp2_with fail
          go_roundw
          case rel => exact ⟨q + 1, by omega, by go_num, HI7.out⟩
          case measure => simp [intOf] <;> omega
        · go_wp2_with fail
          go_roundw
          case rel => exact ⟨q + 1, by omega, by go_num, HI6.out⟩
          case measure => simp [intOf] <;> omega
      · go_wp2_with fail
        go_roundw
        case rel => exact ⟨q + 1, by omega, by go_num, HI6.out⟩
        case measure => simp [intOf] <;> omega
    · obtain rfl : n = q := by omega
      have hcf : cutS Sb cut = cutS P cut := by
        rw [HCS.out, List.take_of_length_le (by rw [rt_len, HN.out]; exact Nat.le_refl _), cut_rt, HPP.out]
      have HCF := Lib.hid hcf
      have HLP := Lib.hid (len_bag HTW.out.ba.bag)
      clear hcf
      go_wp2_with fail
      refine HLP.out.mono ?_
      rintro e w9 ⟨rfl, hw9⟩
      obtain rfl : wr = w9 := hw9.symm
      go_wp2_with fail
      refine (cut_bag HTW.out.ba.bag (by omega) cut HCW.out).mono ?_
      rintro e w5 ⟨rfl, hB5, hk5⟩
      obtain ⟨ht5, hb5⟩ := HTW.out.nextA hB5 hk5
      have HT5 := Lib.hid ht5
      have HB5 := Lib.hid (HBE.out.trans hb5)
      have hwP : ∀ x ∈ P, We x := by rw [← HPP.out]; exact puts_we' HW.out
      obtain ⟨D, hD⟩ : ∃ D, cutS P cut = D := ⟨_, rfl⟩
      rw [hD] at HT5 HCF ⊢
      have hDl : D.length ≤ P.length := by rw [← hD]; exact len_cut_drop _ _
      have hwD : ∀ x ∈ D, We x ∧ cut < x.2.2 := fun x hx => by rw [← hD] at hx; exact ⟨hwP x (cut_sub x hx), cut_above x hx⟩
      have hcc : cutS D cut = D := by rw [← hD]; exact cut_again P cut
      have hpe : (endsL l cut).Perm D := by rw [← hD, ← HPP.out]; exact ends_perm l cut
      have hEl := hpe.length_eq
      have HWD := Lib.hid hwD
      have HCC := Lib.hid hcc
      have HPE := Lib.hid hpe
      have HEL := Lib.hid hEl
      clear hB5 hk5 ht5 hb5 hwP hD hwD hcc hpe hEl
      go_wp2_with fail
      refine (cut_bag HT5.out.bb.bag (by omega) cut HCW.out).mono ?_
      rintro e w6 ⟨rfl, hB6, hk6⟩
      rw [HCF.out] at hB6 ⊢
      obtain ⟨ht6, hb6⟩ := HT5.out.nextB hB6 hk6
      have HT6 := Lib.hid ht6
      have HB6 := Lib.hid (HB5.out.trans hb6)
      clear hB6 hk6 ht6 hb6
      go_wp2_with fail
      refine (ends_any (H.out.below HB6.out) (by have := HN.out; omega) cut).mono ?_
      rintro e w7 ⟨v15, rfl, hrow15, hb7⟩
      obtain ⟨E, hE⟩ : ∃ E, endsL l cut = E := ⟨_, rfl⟩
      rw [hE] at hrow15 HPE HEL
      rw [HEL.out] at hrow15
      obtain ⟨A15, c15, rfl⟩ := row_form2 hrow15
      have HT7 := Lib.hid (HT6.out.below hb7)
      have HB7 := Lib.hid (HB6.out.trans (hb7.mono HB6.out.size))
      have HP7 := Lib.hid (PE.of_own hrow15)
      clear hrow15 hb7 hE
      go_wp2_with fail
      refine (all_any HT7.out.ba.bag (by omega)).mono ?_
      rintro e w8 ⟨v16, rfl, hrow16, hb8⟩
      obtain ⟨A16, c16, rfl⟩ := row_form2 hrow16
      have HT8 := Lib.hid (HT7.out.below hb8)
      have HB8 := Lib.hid (HB7.out.trans (hb8.mono HB7.out.size))
      have HP8 := Lib.hid (And.intro (HP7.out.below hb8) (PE.of_own hrow16))
      clear hrow16 hb8
      go_wp2_with fail
      refine (all_any HT8.out.bb.bag (by omega)).mono ?_
      rintro e w9 ⟨v17, rfl, hrow17, hb9⟩
      obtain ⟨A17, c17, rfl⟩ := row_form2 hrow17
      have HT9 := Lib.hid (HT8.out.below hb9)
      have HB9 := Lib.hid (HB8.out.trans (hb9.mono HB8.out.size))
      have HP9 := Lib.hid (And.intro (HP8.out.1.below hb9) (And.intro (HP8.out.2.below hb9) (PE.of_own hrow17)))
      have HLN := Lib.hid (len_bag HT9.out.ba.bag)
      have hwr : IntKind.i64.wrap ((P.length : Int) - ((P.length : Int) - (D.length : Int))) = (D.length : Int) := by rw [show (P.length : Int) - ((P.length : Int) - (D.length : Int)) = (D.length : Int) by omega]; exact wrap_small _ (by omega) (by omega)
      clear hrow17 hb9
      go_wp2_with (go_at_call 22; refine HLN.out.mono ?_; rintro e w10 ⟨rfl, hw10⟩; obtain rfl : w9 = w10 := hw10.symm)
      clear hwr
      go_loopw [18] (fun i wr => ∃ q : Nat, q ≤ D.length ∧ i = .int .i64 q ∧ Below w9.heap.size w9 wr) (fun i _ => D.length - (intOf i).toNat)
      case atStart => exact ⟨0, Nat.zero_le _, rfl, Below.refl _ _⟩
      case round =>
        obtain ⟨q, hq, rfl, hbr⟩ := hrel
        have HBR := Lib.hid hbr
        clear hbr
        by_cases hlt : q < D.length
        · obtain ⟨ad, e1, _, x0, x1, x2⟩ := PE.at3 (HP9.out.2.1.below HBR.out) hlt
          subst e1
          obtain ⟨ad2, e2, _, y0, y1, y2⟩ := PE.at3 (HP9.out.2.2.below HBR.out) hlt
          subst e2
          obtain ⟨x, hx⟩ : ∃ x, ge D q = x := ⟨_, rfl⟩
          rw [hx] at x0 x1 x2 y0 y1 y2
          have hmx : x ∈ D := by rw [← hx]; exact ge_mem hlt
          obtain ⟨hwx, hcx⟩ := HWD.out x hmx
          have hfx := fnd_at HT9.out.ba.bag.sd hmx
          have hks : x.1.size ≤ maxLen := by have := hwx.1; unfold maxLen; omega
          have hcx' : ¬ x.2.2 ≤ cut := by omega
          have HX := Lib.hid hx
          have HLT := Lib.hid hlt
          have HWX := Lib.hid hwx
          have HF := Lib.hid hfx
          have HKS := Lib.hid hks
          have N1 := fun W => ne38 W x.1 x.1 x.2.1 x.2.2 x.2.1 x.2.2
          simp only [decide_true, Bool.not_true] at N1
          have hqi : (q : Int) < (D.length : Int) := by omega
          clear hx hmx hwx hcx hfx hks
          by_cases h0 : q = 0
          · have hq0 : ¬ (0 : Int) < (q : Int) := by omega
            have hd0 : decide ((0 : Int) < (q : Int)) = false := decide_eq_false hq0
            have hn0 : ¬ 0 < q := by omega
            have hd1 : decide (0 < q) = false := decide_eq_false hn0
            clear h0
            go_upto_region 24 with (fail)
            go_quiet (fail)
            clear y0 y1 y2 N1 hd0 hd1 hn0
            have hbq : Below w9.heap.size w9 (wr.drewN nq) := HBR.out.trans ⟨rfl, rfl, rfl, Nat.le_refl _, fun _ _ => rfl⟩
            have HBQ := Lib.hid hbq
            have HTT := Lib.hid (HT9.out.below hbq)
            clear hbq x0 x1 x2
            generalize wr.drewN nq = WT at *
            obtain ⟨ad', e1, _, x0, x1, x2⟩ := PE.at3 (HP9.out.2.1.below HBQ.out) HLT.out
            injection e1 with e1
            subst e1
            rw [HX.out] at x0 x1 x2
            have cE : ∀ d os, Calls Tryz.prog 20 #[.pointer (some ⟨a, 0, none⟩), .string x.1, .int .i64 x.2.1] (Sort.grow (redrawn WT d) os) fun e w'' => e = .returned (.tuple #[.int .i64 x.2.2, .bool true]) ∧ ∃ p : Regrown, w'' = Sort.grow (redrawn WT p.d) p.os := fun d os => Calls.regrown_of (by have := end_bag (HTT.out.below (below_regrown WT d os)).ba.bag x.1 x.2.1 HKS.out HWX.out.2.1; rw [HF.out] at this; exact this)
            have k0 := cell_regrown x0
            have k1 := cell_regrown x1
            go_upto_region 26 with (fail)
            refine wp_region_quiet_below (by kernel_rfl) (by kernel_rfl) ?_
            repeat (first | go_big_quiet_skip | (go_big_quiet_want; go_big_quiet_op; first | go_big_quiet_on | go_big_quiet_call (exact cE _ _)) | quiet_step (exact cE _ _))
            refine wpQuiet_nil ?_
            intro _ hw'
            obtain ⟨⟨dq, osq⟩, hw''⟩ := hw'
            subst hw''
            have hbd := below_regrown WT dq osq
            generalize Sort.grow (redrawn WT dq) osq = WE at hbd ⊢
            have hb11 := HBQ.out.trans (hbd.mono HBQ.out.size)
            have HB11 := Lib.hid hb11
            clear cE k0 k1 x0 x1 x2 hbd
            obtain ⟨ad', e1, _, x0, x1, x2⟩ := PE.at3 (HP9.out.2.1.below hb11) HLT.out
            injection e1 with e1
            subst e1
            rw [HX.out] at x0 x1 x2
            clear hb11
            go_wp2_with fail
            go_roundw
            case rel => exact ⟨q + 1, by omega, by go_num, HB11.out⟩
            case measure => simp [intOf] <;> omega
          · obtain ⟨p, hp⟩ : ∃ p, q = p + 1 := ⟨q - 1, by omega⟩
            have hr0 : (0 : Int) < (q : Int) := by omega
            have hn0 : 0 < q := by omega
            have hd0 : decide ((0 : Int) < (q : Int)) = true := decide_eq_true hr0
            have hd1 : decide (0 < q) = true := decide_eq_true hn0
            obtain ⟨ad', e1, _, z0, z1, z2⟩ := PE.at3 (HP9.out.2.1.below HBR.out) (k := p) (by omega)
            injection e1 with e1
            subst e1
            obtain ⟨z, hz⟩ : ∃ z, ge D p = z := ⟨_, rfl⟩
            rw [hz] at z0 z1 z2
            have hsub : (q : Int) - 1 = (p : Int) := by omega
            have hwr : IntKind.i64.wrap (p : Int) = (p : Int) := wrap_small _ (by omega) (by omega)
            have hpl : (p : Int) < (D.length : Int) := by omega
            have hp0 : (0 : Int) ≤ (p : Int) := by omega
            have hrise := rise_at HT9.out.ba.bag.sd (i := p) (by omega)
            rw [hz, ← hp, HX.out, pb_iff] at hrise
            clear hz hp
            by_cases hk : z.1 = x.1
            · have hv : z.2.1 < x.2.1 := by
                rcases hrise with h1 | h1
                · rw [hk, bl_irrefl] at h1; cases h1
                · exact h1.2
              rw [hk] at z0
              have hv' : ¬ x.2.1 ≤ z.2.1 := by omega
              have hv2 : decide (x.2.1 ≤ z.2.1) = false := decide_eq_false hv'
              have K1 := fun W => gtS W x.1 x.1
              simp only [bl_irrefl] at K1
              have K2 : (x.1.toList == x.1.toList) = true := by simp
              clear hrise hk
              go_upto_region 24 with (fail)
              go_quiet (fail)
              clear y0 y1 y2 z0 z1 z2 N1 K1 K2 hwr hsub hpl hp0 hd0 hd1 hn0 hv hv' hv2
              have hbq : Below w9.heap.size w9 (wr.drewN nq) := HBR.out.trans ⟨rfl, rfl, rfl, Nat.le_refl _, fun _ _ => rfl⟩
              have HBQ := Lib.hid hbq
              have HTT := Lib.hid (HT9.out.below hbq)
              clear hbq x0 x1 x2
              generalize wr.drewN nq = WT at *
              obtain ⟨ad', e1, _, x0, x1, x2⟩ := PE.at3 (HP9.out.2.1.below HBQ.out) HLT.out
              injection e1 with e1
              subst e1
              rw [HX.out] at x0 x1 x2
              have cE : ∀ d os, Calls Tryz.prog 20 #[.pointer (some ⟨a, 0, none⟩), .string x.1, .int .i64 x.2.1] (Sort.grow (redrawn WT d) os) fun e w'' => e = .returned (.tuple #[.int .i64 x.2.2, .bool true]) ∧ ∃ p : Regrown, w'' = Sort.grow (redrawn WT p.d) p.os := fun d os => Calls.regrown_of (by have := end_bag (HTT.out.below (below_regrown WT d os)).ba.bag x.1 x.2.1 HKS.out HWX.out.2.1; rw [HF.out] at this; exact this)
              have k0 := cell_regrown x0
              have k1 := cell_regrown x1
              go_upto_region 26 with (fail)
              refine wp_region_quiet_below (by kernel_rfl) (by kernel_rfl) ?_
              repeat (first | go_big_quiet_skip | (go_big_quiet_want; go_big_quiet_op; first | go_big_quiet_on | go_big_quiet_call (exact cE _ _)) | quiet_step (exact cE _ _))
              refine wpQuiet_nil ?_
              intro _ hw'
              obtain ⟨⟨dq, osq⟩, hw''⟩ := hw'
              subst hw''
              have hbd := below_regrown WT dq osq
              generalize Sort.grow (redrawn WT dq) osq = WE at hbd ⊢
              have hb11 := HBQ.out.trans (hbd.mono HBQ.out.size)
              have HB11 := Lib.hid hb11
              clear cE k0 k1 x0 x1 x2 hbd
              obtain ⟨ad', e1, _, x0, x1, x2⟩ := PE.at3 (HP9.out.2.1.below hb11) HLT.out
              injection e1 with e1
              subst e1
              rw [HX.out] at x0 x1 x2
              clear hb11
              go_wp2_with fail
              go_roundw
              case rel => exact ⟨q + 1, by omega, by go_num, HB11.out⟩
              case measure => simp [intOf] <;> omega
            · have hb : bl z.1 x.1 = true := by
                rcases hrise with h1 | h1
                · exact h1
                · exact absurd h1.1 hk
              have K1 := fun W => gtS W z.1 x.1
              simp only [bl_asymm hb] at K1
              have K2 : (z.1.toList == x.1.toList) = false := by rw [lE]; exact decide_eq_false hk
              clear hrise hk hb
              go_upto_region 24 with (fail)
              go_quiet (fail)
              clear y0 y1 y2 z0 z1 z2 N1 K1 K2 hwr hsub hpl hp0 hd0 hd1 hn0
              have hbq : Below w9.heap.size w9 (wr.drewN nq) := HBR.out.trans ⟨rfl, rfl, rfl, Nat.le_refl _, fun _ _ => rfl⟩
              have HBQ := Lib.hid hbq
              have HTT := Lib.hid (HT9.out.below hbq)
              clear hbq x0 x1 x2
              generalize wr.drewN nq = WT at *
              obtain ⟨ad', e1, _, x0, x1, x2⟩ := PE.at3 (HP9.out.2.1.below HBQ.out) HLT.out
              injection e1 with e1
              subst e1
              rw [HX.out] at x0 x1 x2
              have cE : ∀ d os, Calls Tryz.prog 20 #[.pointer (some ⟨a, 0, none⟩), .string x.1, .int .i64 x.2.1] (Sort.grow (redrawn WT d) os) fun e w'' => e = .returned (.tuple #[.int .i64 x.2.2, .bool true]) ∧ ∃ p : Regrown, w'' = Sort.grow (redrawn WT p.d) p.os := fun d os => Calls.regrown_of (by have := end_bag (HTT.out.below (below_regrown WT d os)).ba.bag x.1 x.2.1 HKS.out HWX.out.2.1; rw [HF.out] at this; exact this)
              have k0 := cell_regrown x0
              have k1 := cell_regrown x1
              go_upto_region 26 with (fail)
              refine wp_region_quiet_below (by kernel_rfl) (by kernel_rfl) ?_
              repeat (first | go_big_quiet_skip | (go_big_quiet_want; go_big_quiet_op; first | go_big_quiet_on | go_big_quiet_call (exact cE _ _)) | quiet_step (exact cE _ _))
              refine wpQuiet_nil ?_
              intro _ hw'
              obtain ⟨⟨dq, osq⟩, hw''⟩ := hw'
              subst hw''
              have hbd := below_regrown WT dq osq
              generalize Sort.grow (redrawn WT dq) osq = WE at hbd ⊢
              have hb11 := HBQ.out.trans (hbd.mono HBQ.out.size)
              have HB11 := Lib.hid hb11
              clear cE k0 k1 x0 x1 x2 hbd
              obtain ⟨ad', e1, _, x0, x1, x2⟩ := PE.at3 (HP9.out.2.1.below hb11) HLT.out
              injection e1 with e1
              subst e1
              rw [HX.out] at x0 x1 x2
              clear hb11
              go_wp2_with fail
              go_roundw
              case rel => exact ⟨q + 1, by omega, by go_num, HB11.out⟩
              case measure => simp [intOf] <;> omega
        · obtain rfl : q = D.length := by omega
          go_wp2_with fail
          go_loopw [21] (fun i wr => ∃ q : Nat, q ≤ D.length ∧ i = .int .i64 q ∧ Below w9.heap.size w9 wr) (fun i _ => D.length - (intOf i).toNat)
          case atStart => exact ⟨0, Nat.zero_le _, rfl, HBR.out⟩
          case round =>
            obtain ⟨q, hq, rfl, hbr⟩ := hrel
            have HBS := Lib.hid hbr
            clear hbr
            by_cases hlt : q < D.length
            · have hlE : q < E.length := by rw [HEL.out]; exact hlt
              obtain ⟨ad, e1, _, x0, x1, x2⟩ := PE.at3 (HP9.out.1.below HBS.out) hlE
              subst e1
              obtain ⟨x, hx⟩ : ∃ x, ge E q = x := ⟨_, rfl⟩
              rw [hx] at x0 x1 x2
              have hmx : x ∈ D := HPE.out.mem_iff.1 (by rw [← hx]; exact ge_mem hlE)
              obtain ⟨hwx, hcx⟩ := HWD.out x hmx
              have hfx := fnd_at HT9.out.ba.bag.sd hmx
              have hks : x.1.size ≤ maxLen := by have := hwx.1; unfold maxLen; omega
              have HX := Lib.hid hx
              have HLE := Lib.hid hlE
              have HWX := Lib.hid hwx
              have HF := Lib.hid hfx
              have HKS := Lib.hid hks
              clear hx hmx hwx hcx hfx hks hlE
              have HBQ := HBS
              have HTT := Lib.hid (HT9.out.below HBS.out)
              have cE : ∀ d os, Calls Tryz.prog 20 #[.pointer (some ⟨a, 0, none⟩), .string x.1, .int .i64 x.2.1] (Sort.grow (redrawn wr d) os) fun e w'' => e = .returned (.tuple #[.int .i64 x.2.2, .bool true]) ∧ ∃ p : Regrown, w'' = Sort.grow (redrawn wr p.d) p.os := fun d os => Calls.regrown_of (by have := end_bag (HTT.out.below (below_regrown wr d os)).ba.bag x.1 x.2.1 HKS.out HWX.out.2.1; rw [HF.out] at this; exact this)
              have k0 := cell_regrown x0
              have k1 := cell_regrown x1
              go_upto_region 32 with (fail)
              refine wp_region_quiet_below (by kernel_rfl) (by kernel_rfl) ?_
              repeat (first | go_big_quiet_skip | (go_big_quiet_want; go_big_quiet_op; first | go_big_quiet_on | go_big_quiet_call (exact cE _ _)) | quiet_step (exact cE _ _))
              refine wpQuiet_nil ?_
              intro _ hw'
              obtain ⟨⟨dq, osq⟩, hw''⟩ := hw'
              subst hw''
              have hbd := below_regrown wr dq osq
              generalize Sort.grow (redrawn wr dq) osq = WE at hbd ⊢
              have hb11 := HBQ.out.trans (hbd.mono HBQ.out.size)
              have HB11 := Lib.hid hb11
              clear cE k0 k1 x0 x1 x2 hbd
              obtain ⟨ad', e1, _, x0, x1, x2⟩ := PE.at3 (HP9.out.1.below hb11) HLE.out
              injection e1 with e1
              subst e1
              rw [HX.out] at x0 x1 x2
              clear hb11
              go_wp2_with fail
              go_roundw
              case rel => exact ⟨q + 1, by omega, by go_num, HB11.out⟩
              case measure => simp [intOf] <;> omega
            · obtain rfl : q = D.length := by omega
              have HT10 := Lib.hid (HT9.out.below HBS.out)
              go_wp2_with fail
              refine (cut_bag HT10.out.ba.bag (by omega) cut HCW.out).mono ?_
              rintro e w11 ⟨he, hB11, hk11⟩
              rw [HCC.out, show (D.length : Int) - (D.length : Int) = 0 by omega] at he
              subst he
              have HBE := Lib.hid ((HB9.out.trans (HBS.out.mono HB9.out.size)).trans (HT10.out.nextA hB11 hk11).2)
              clear hB11 hk11
              go_wp2_with fail
              go_ret
              exact ⟨rfl, HBE.out⟩
end Go.Proofs.YtfcdgfjpmcapkaaGreat
