/- Texts RG, RH, QC, QD, QE0, one behind the other. -/
import Derived.Test.YtnccgaanfjaimaaDoorJ6
import Derived.Test.YtnccgaanfjaimaaDoorJ10
set_option linter.unusedSimpArgs false
set_option linter.unusedVariables false
namespace Go.Proofs.YtnccgaanfjaimaaDoor
open Go.ChangeShapes Go.WideShapes Go.ChangeAt Go.RowKit
set_option linter.unusedVariables false
set_option linter.unusedSimpArgs false

attribute [local go_sem] Oper.semAt_some

def wdF (word : Wd) : Nat → ByteArray := fun k => (word[k]?).getD ⟨#[]⟩
theorem wdF_get {word : Wd} {k : Nat} (h : k < word.length) : wdF word k = word[k] := by unfold wdF; rw [List.getElem?_eq_getElem h]; rfl
theorem text_same {a b : ByteArray} : (a.toList == b.toList) = true ↔ a = b := by
 constructor
 ·intro h
  have h1 : a.toList = b.toList := by simpa using h
  have h2 : a.data.toList = b.data.toList := by rw [← ByteArray.toList_eq, ← ByteArray.toList_eq]; exact h1
  exact ByteArray.ext (Array.toList_inj.1 h2)
 ·intro h; subst h; simp
def S43 (word : Wd) (n : Nat) (x : X) : Prop := ∀ (N M : Nat) (w : World) (v wv : Value), XV N w v x → SR M w wv word → N ≤ w.heap.size → M ≤ w.heap.size →
 Calls Tryd.prog 74 #[v, wv] w fun e w' => ∃ v', e = .returned v' ∧ Mt 0 w' v' n (pF (Bt (wdF word) x.L)) ∧ Below w.heap.size w w'
theorem XR.at0 {B : Nat} {w : World} {A : Option Addr} {n c : Nat} {a : X} (h : XR B w (.slice A n c) [a]) :
  ∃ ad kv, A = some ad ∧ ad.block < B ∧ w.cell? ad = some (.int .i64 a.kind) ∧ w.cell? ⟨ad.block, ad.off + 1, none⟩ = some (.string a.lab) ∧ w.cell? ⟨ad.block, ad.off + 2, none⟩ = some kv ∧ XR B w kv a.kids := by
 obtain ⟨ad, kv, h1, h2, h3, h4, h5, h6⟩ := h.at3 (k := 0) (by simp)
 have e : ad.add (0 * 3) = ad := by rw [Nat.zero_mul]; rfl
 rw [e] at h3 h4 h5
 exact ⟨ad, kv, h1, h2, h3, h4, h5, h6⟩

set_option maxRecDepth 100000 in
set_option maxHeartbeats 4000000 in
theorem ways_label {word : Wd} {n : Nat} (hn : word.length = n) (hn1 : n ≤ 100000) {x : X} (hk : x.kind = 1) : S43 word n x := by
 intro N M w v wv hx hw hN hM
 obtain ⟨kx, rfl, hkx⟩ := hx
 obtain ⟨A, c, rfl⟩ := hkx.form
 have hws := hw
 obtain ⟨A2, c2, rfl, hw2⟩ := hw
 clear hw2
 rw [hn] at hws ⊢
 rw [hk]
 obtain ⟨lb, hlb⟩ : ∃ l, x.lab = l := ⟨_, rfl⟩
 rw [hlb]
 obtain ⟨W0, hW0⟩ : ∃ W0, w.alloc (.cells #[.int .i64 1, .string lb, .slice A x.kids.length c] 25) = W0 := ⟨_, rfl⟩
 obtain ⟨hb0, hz0, hbx, hkd⟩ := boxed_kids hW0 hkx hN
 have HB0 := Lib.hid hb0
 have HBX := Lib.hid hbx
 have HKD := Lib.hid hkd
 have HSR := Lib.hid (fun W (h : Below W0.heap.size W0 W) => hws.bel ((hb0.mono hM).trans (h.mono (by omega))))
 have HLB := Lib.hid (And.intro hk hlb)
 obtain ⟨d0, d1, d2⟩ := hbx W0 (Below.refl _ _)
 have HN1 := Lib.hid (And.intro (show N ≤ W0.heap.size by omega) (show M ≤ W0.heap.size by omega))
 have HNO := Lib.hid (fun W (h : Below W0.heap.size W0 W) => none60_any W n hn1)
 have HST := Lib.hid (fun W (h : Below W0.heap.size W0 W) => still61_any W n hn1)
 have HWL := Lib.hid hn
 clear hkx hws hbx hkd hb0 hz0 hk hlb hN hM
 go_enter Tryd.func74, Tryd.ntmps74
 go_upto_region 1 with (fail)
 try rw [hW0]
 go_upto_region 6 with (go_at_call 88; refine (HNO.out _ (Below.refl _ _)).mono ?_; rintro e w1 ⟨v1, rfl, hm1, hb1⟩; rw [none_p] at hm1; have H1 := Lib.hid (And.intro hm1 hb1); obtain ⟨d0, d1, d2⟩ := HBX.out _ hb1; clear hm1 hb1)
 obtain ⟨g, cg, r, rfl, hcg, hmt⟩ := H1.out.1
 have HM := Lib.hid (And.intro hmt H1.out.2)
 clear hmt H1 d0 d1 d2
 go_loopw [7] (fun u7 wr => ∃ k : Nat, k ≤ n ∧ u7 = .int .i64 k ∧ MtAt W0.heap.size wr g r n (pF fun i j => i < k ∧ Bt (wdF word) x.L i j) ∧ Below W0.heap.size W0 wr) (fun u7 _ => n + 1 - (intOf u7).toNat)
 case atStart => exact ⟨0, Nat.zero_le _, rfl, HM.out.1.ext_p (fun i j _ _ => by simp), HM.out.2⟩
 case round =>
  obtain ⟨k, hk, rfl, hm, hb⟩ := hrel
  have HR := Lib.hid (And.intro hm hb)
  by_cases hkn : k < n
  ·have hki : (k : Int) < (n : Int) := by omega
   have hkw : k < word.length := by have := HWL.out; omega
   have hkl : k ≤ n := by omega
   have hk1 : k + 1 ≤ n := by omega
   have hk2 : k < n + 1 := by omega
   have hk3 : k + 1 < n + 1 := by omega
   obtain ⟨A2', c2', ew, hw2⟩ := HSR.out wr hb
   injection ew with ew1 ew2 ew3
   subst ew1 ew3
   obtain ⟨ad2, rfl, hab2, hcs2⟩ := hw2 (by omega)
   have e0 := hcs2 k hkw
   obtain ⟨s, hs⟩ : ∃ s, word[k] = s := ⟨_, rfl⟩
   rw [hs] at e0
   obtain ⟨d0, d1, d2⟩ := HBX.out wr hb
   have c1 := hm.cell hkl
   have c2 := hm.flag hkl hk1
   have c3 := hm.frozen hkl (k + 1)
   generalize hrk : r k = rk at *
   have HFIN := Lib.hid (show MtAt W0.heap.size (wr.setCell ⟨rk, k + 1, none⟩ (.bool (s.toList == lb.toList))).drew g r n (pF fun i j => i < k + 1 ∧ Bt (wdF word) x.L i j) ∧ Below W0.heap.size W0 (wr.setCell ⟨rk, k + 1, none⟩ (.bool (s.toList == lb.toList))).drew by
    have h4 := hm.set_p (P' := fun i j => i < k + 1 ∧ Bt (wdF word) x.L i j) hkl hk1 (s.toList == lb.toList) (by
     rw [text_same, Bt_label _ HLB.out.1, wdF_get hkw, hs, HLB.out.2]
     exact ⟨fun h => ⟨Nat.lt_succ_self _, rfl, h⟩, fun h => h.2.2⟩) (fun i' j' h => by
     rw [Bt_label _ HLB.out.1]
     constructor
     ·rintro ⟨h1, h2⟩
      exact ⟨by omega, h2⟩
     ·rintro ⟨h1, h2, h3⟩
      exact ⟨by omega, h2, h3⟩)
    rw [hrk] at h4
    have h5 := (hm.row k hkl).1
    rw [hrk] at h5
    exact ⟨h4.bel (Below.refl _ _).drew, (hb.setCell h5 _).drew⟩)
   clear hm hb hrk hs hw2 hcs2 hab2 hkw hn HR HNO HST HSR HKD HBX HLB
   go_upto_region 8 with (fail)
   obtain ⟨q, hq⟩ : ∃ q, (s.toList == lb.toList) = q := ⟨_, rfl⟩
   rw [hq] at HFIN
   go_region
   go_wp2_with fail
   go_roundw
   case rel => exact ⟨k + 1, by omega, by go_num, HFIN.out.1, HFIN.out.2⟩
   case measure => simp [intOf]; omega
  ·have hki : ¬ (k : Int) < (n : Int) := by omega
   clear hm hb
   go_wp2_with fail
   go_ret
   refine ⟨_, rfl, ⟨g, cg, r, rfl, hcg, (HR.out.1.mono (Nat.zero_le _)).ext_p (fun i j hi hj => ?_)⟩, HB0.out.trans (HR.out.2.mono HB0.out.size)⟩
   constructor
   ·rintro ⟨h1, h2⟩; exact h2
   ·intro h2
    exact ⟨by have := ((Bt_label _ HLB.out.1 i j).1 h2).1; omega, h2⟩

set_option maxRecDepth 100000 in
set_option maxHeartbeats 4000000 in
theorem ways_seq {word : Wd} {n : Nat} (hn : word.length = n) (hn1 : n ≤ 100000) {x : X} (hk : x.kind = 2) (hkl : x.kids.length ≤ 100000) (ih : ∀ y ∈ x.kids, S43 word n y) : S43 word n x := by
 intro N M w v wv hx hw hN hM
 obtain ⟨kx, rfl, hkx⟩ := hx
 obtain ⟨A, c, rfl⟩ := hkx.form
 have hws := hw
 obtain ⟨A2, c2, rfl, hw2⟩ := hw
 clear hw2
 rw [hn] at hws ⊢
 rw [hk]
 obtain ⟨lb, hlb⟩ : ∃ l, x.lab = l := ⟨_, rfl⟩
 rw [hlb]
 obtain ⟨W0, hW0⟩ : ∃ W0, w.alloc (.cells #[.int .i64 2, .string lb, .slice A x.kids.length c] 25) = W0 := ⟨_, rfl⟩
 obtain ⟨hb0, hz0, hbx, hkd⟩ := boxed_kids hW0 hkx hN
 have HB0 := Lib.hid hb0
 have HBX := Lib.hid hbx
 have HKD := Lib.hid hkd
 have HSR := Lib.hid (fun W (h : Below W0.heap.size W0 W) => hws.bel ((hb0.mono hM).trans (h.mono (by omega))))
 have HLB := Lib.hid (And.intro hk hlb)
 obtain ⟨d0, d1, d2⟩ := hbx W0 (Below.refl _ _)
 have HN1 := Lib.hid (And.intro (show N ≤ W0.heap.size by omega) (show M ≤ W0.heap.size by omega))
 have HNO := Lib.hid (fun W (h : Below W0.heap.size W0 W) => none60_any W n hn1)
 have HST := Lib.hid (fun W (h : Below W0.heap.size W0 W) => still61_any W n hn1)
 have HWL := Lib.hid hn
 clear hkx hws hbx hkd hb0 hz0 hk hlb hN hM
 obtain ⟨kn, hkn⟩ : ∃ m, x.kids.length = m := ⟨_, rfl⟩
 obtain ⟨ks, hks⟩ : ∃ ks, x.kids = ks := ⟨_, rfl⟩
 have HKS := Lib.hid hks
 rw [hkn] at HKD d2 hW0 HBX hkl ⊢
 rw [hks] at HKD hkn ih
 have HIH := Lib.hid ih
 have HKN := Lib.hid hkn
 clear hks hkn ih
 go_enter Tryd.func74, Tryd.ntmps74
 go_upto_region 1 with (fail)
 try rw [hW0]
 go_upto_region 12 with (first | (go_at_call 88; refine (HNO.out _ (Below.refl _ _)).mono ?_; rintro e w1 ⟨v1, rfl, hm1, hb1⟩; rw [none_p] at hm1; have H1 := Lib.hid (And.intro hm1 hb1); obtain ⟨d0, d1, d2⟩ := HBX.out _ hb1; clear hm1 hb1) | (go_at_call 89; refine (HST.out _ H1.out.2).mono ?_; rintro e w2 ⟨v2, rfl, hm2, hb2⟩; have H2 := Lib.hid (And.intro hm2 (H1.out.2.trans (hb2.mono H1.out.2.size))); clear hm2 hb2))
 clear d0 d1 d2
 go_loopw [6, 8] (fun u6 ui wr => ∃ k : Nat, k ≤ kn ∧ ui = .int .i64 k ∧ Mt 0 wr u6 n (pF (Bt (wdF word) (LS (ks.take k)))) ∧ Below W0.heap.size W0 wr) (fun u6 ui _ => kn + 1 - (intOf ui).toNat)
 case atStart => exact ⟨0, Nat.zero_le _, rfl, (H2.out.1.mono (Nat.zero_le _)).ext_p (fun i j _ _ => by rw [List.take_zero, Bt_LS_nil]), H2.out.2⟩
 case round =>
  obtain ⟨k, hk, rfl, hm, hb⟩ := hrel
  have HR := Lib.hid (And.intro hm hb)
  obtain ⟨d0, d1, d2⟩ := HBX.out wr hb
  clear H1
  by_cases hkn : k < kn
  ·have hki : (k : Int) < (kn : Int) := by omega
   have hkl2 : k < ks.length := by have := HKN.out; omega
   obtain ⟨ad, ky, e1, hbA, a0, a1, a2, hky⟩ := (HKD.out wr hb).at3 hkl2
   subst e1
   have hy43 := HIH.out ks[k] (List.getElem_mem _)
   have HTK := Lib.hid (List.take_succ_eq_append_getElem hkl2)
   obtain ⟨y, hy⟩ : ∃ y, ks[k] = y := ⟨_, rfl⟩
   rw [hy] at a0 a1 hky hy43 HTK
   have HC := Lib.hid (hy43 N M wr _ _ ⟨ky, rfl, hky⟩ (HSR.out wr hb) (Nat.le_trans HN1.out.1 hb.size) (Nat.le_trans HN1.out.2 hb.size))
   clear hm hb hky hy43 hy
   go_wp2_with (first
    | (go_at_call 74; refine HC.out.mono ?_; rintro e w3 ⟨v3, rfl, hm3, hb3⟩; have HM3 := Lib.hid (And.intro hm3 hb3); clear hm3 hb3)
    | (go_at_call 90; refine (joined62_any hn1 (HR.out.1.bel HM3.out.2) HM3.out.1).mono ?_; rintro e w4 ⟨v4, rfl, hm4, hb4⟩; have HM4 := Lib.hid (And.intro hm4 hb4); clear hm4 hb4))
   go_roundw
   case rel =>
    refine ⟨k + 1, by omega, by go_num, (HM4.out.1.mono (Nat.zero_le _)).ext_p (fun i j hi hj => ?_), HR.out.2.trans ((HM3.out.2.trans (HM4.out.2.mono HM3.out.2.size)).mono HR.out.2.size)⟩
    rw [HTK.out, Bt_LS_snoc]
    constructor
    ·rintro ⟨l, _, _, h1, h2⟩; exact ⟨l, h1, h2⟩
    ·rintro ⟨l, h1, h2⟩; exact ⟨l, h1.1, h2.1, h1, h2⟩
   case measure => simp [intOf]; omega
  ·have hki : ¬ (k : Int) < (kn : Int) := by omega
   clear hm hb
   go_wp2_with fail
   go_ret
   refine ⟨_, rfl, HR.out.1.ext_p (fun i j hi hj => ?_), HB0.out.trans (HR.out.2.mono HB0.out.size)⟩
   rw [show ks.take k = ks by rw [show k = kn by omega, ← HKN.out]; exact List.take_length, ← HKS.out]
   exact (Bt_seq _ HLB.out.1 i j).symm

set_option maxRecDepth 100000 in
set_option maxHeartbeats 4000000 in
theorem ways_alt {word : Wd} {n : Nat} (hn : word.length = n) (hn1 : n ≤ 100000) {x : X} (hk : x.kind = 3) (hkl : x.kids.length ≤ 100000) (ih : ∀ y ∈ x.kids, S43 word n y) : S43 word n x := by
 intro N M w v wv hx hw hN hM
 obtain ⟨kx, rfl, hkx⟩ := hx
 obtain ⟨A, c, rfl⟩ := hkx.form
 have hws := hw
 obtain ⟨A2, c2, rfl, hw2⟩ := hw
 clear hw2
 rw [hn] at hws ⊢
 rw [hk]
 obtain ⟨lb, hlb⟩ : ∃ l, x.lab = l := ⟨_, rfl⟩
 rw [hlb]
 obtain ⟨W0, hW0⟩ : ∃ W0, w.alloc (.cells #[.int .i64 3, .string lb, .slice A x.kids.length c] 25) = W0 := ⟨_, rfl⟩
 obtain ⟨hb0, hz0, hbx, hkd⟩ := boxed_kids hW0 hkx hN
 have HB0 := Lib.hid hb0
 have HBX := Lib.hid hbx
 have HKD := Lib.hid hkd
 have HSR := Lib.hid (fun W (h : Below W0.heap.size W0 W) => hws.bel ((hb0.mono hM).trans (h.mono (by omega))))
 have HLB := Lib.hid (And.intro hk hlb)
 obtain ⟨d0, d1, d2⟩ := hbx W0 (Below.refl _ _)
 have HN1 := Lib.hid (And.intro (show N ≤ W0.heap.size by omega) (show M ≤ W0.heap.size by omega))
 have HNO := Lib.hid (fun W (h : Below W0.heap.size W0 W) => none60_any W n hn1)
 have HST := Lib.hid (fun W (h : Below W0.heap.size W0 W) => still61_any W n hn1)
 have HWL := Lib.hid hn
 clear hkx hws hbx hkd hb0 hz0 hk hlb hN hM
 obtain ⟨kn, hkn⟩ : ∃ m, x.kids.length = m := ⟨_, rfl⟩
 obtain ⟨ks, hks⟩ : ∃ ks, x.kids = ks := ⟨_, rfl⟩
 have HKS := Lib.hid hks
 rw [hkn] at HKD d2 hW0 HBX hkl ⊢
 rw [hks] at HKD hkn ih
 have HIH := Lib.hid ih
 have HKN := Lib.hid hkn
 clear hks hkn ih
 go_enter Tryd.func74, Tryd.ntmps74
 go_upto_region 1 with (fail)
 try rw [hW0]
 go_upto_region 17 with (go_at_call 88; refine (HNO.out _ (Below.refl _ _)).mono ?_; rintro e w1 ⟨v1, rfl, hm1, hb1⟩; rw [none_p] at hm1; have H1 := Lib.hid (And.intro hm1 hb1); obtain ⟨d0, d1, d2⟩ := HBX.out _ hb1; clear hm1 hb1)
 clear d0 d1 d2
 go_loopw [6, 9] (fun u6 ui wr => ∃ k : Nat, k ≤ kn ∧ ui = .int .i64 k ∧ Mt 0 wr u6 n (pF (Bt (wdF word) (LA (ks.take k)))) ∧ Below W0.heap.size W0 wr) (fun u6 ui _ => kn + 1 - (intOf ui).toNat)
 case atStart => exact ⟨0, Nat.zero_le _, rfl, (H1.out.1.mono (Nat.zero_le _)).ext_p (fun i j _ _ => by rw [List.take_zero, Bt_LA_nil]), H1.out.2⟩
 case round =>
  obtain ⟨k, hk, rfl, hm, hb⟩ := hrel
  have HR := Lib.hid (And.intro hm hb)
  obtain ⟨d0, d1, d2⟩ := HBX.out wr hb
  clear H1
  by_cases hkn : k < kn
  ·have hki : (k : Int) < (kn : Int) := by omega
   have hkl2 : k < ks.length := by have := HKN.out; omega
   obtain ⟨ad, ky, e1, hbA, a0, a1, a2, hky⟩ := (HKD.out wr hb).at3 hkl2
   subst e1
   have hy43 := HIH.out ks[k] (List.getElem_mem _)
   have HTK := Lib.hid (List.take_succ_eq_append_getElem hkl2)
   obtain ⟨y, hy⟩ : ∃ y, ks[k] = y := ⟨_, rfl⟩
   rw [hy] at a0 a1 hky hy43 HTK
   have HC := Lib.hid (hy43 N M wr _ _ ⟨ky, rfl, hky⟩ (HSR.out wr hb) (Nat.le_trans HN1.out.1 hb.size) (Nat.le_trans HN1.out.2 hb.size))
   clear hm hb hky hy43 hy
   go_wp2_with (first
    | (go_at_call 74; refine HC.out.mono ?_; rintro e w3 ⟨v3, rfl, hm3, hb3⟩; have HM3 := Lib.hid (And.intro hm3 hb3); clear hm3 hb3)
    | (go_at_call 91; refine (either63_any hn1 (HR.out.1.bel HM3.out.2) HM3.out.1).mono ?_; rintro e w4 ⟨v4, rfl, hm4, hb4⟩; have HM4 := Lib.hid (And.intro hm4 hb4); clear hm4 hb4))
   go_roundw
   case rel =>
    refine ⟨k + 1, by omega, by go_num, (HM4.out.1.mono (Nat.zero_le _)).ext_p (fun i j hi hj => ?_), HR.out.2.trans ((HM3.out.2.trans (HM4.out.2.mono HM3.out.2.size)).mono HR.out.2.size)⟩
    rw [HTK.out, Bt_LA_snoc]
    constructor
    ·rintro ⟨_, h⟩; exact h
    ·rintro (h | h)
     ·exact ⟨h.1, .inl h⟩
     ·exact ⟨h.1, .inr h⟩
   case measure => simp [intOf]; omega
  ·have hki : ¬ (k : Int) < (kn : Int) := by omega
   clear hm hb
   go_wp2_with fail
   go_ret
   refine ⟨_, rfl, HR.out.1.ext_p (fun i j hi hj => ?_), HB0.out.trans (HR.out.2.mono HB0.out.size)⟩
   rw [show ks.take k = ks by rw [show k = kn by omega, ← HKN.out]; exact List.take_length, ← HKS.out]
   exact (Bt_alt _ HLB.out.1 i j).symm

set_option maxRecDepth 100000 in
set_option maxHeartbeats 4000000 in
theorem ways_opt {word : Wd} {n : Nat} (hn : word.length = n) (hn1 : n ≤ 100000) {x a : X} (hk : x.kind = 6) (hxa : x.kids = [a]) (ih : S43 word n a) : S43 word n x := by
 intro N M w v wv hx hw hN hM
 obtain ⟨kx, rfl, hkx⟩ := hx
 obtain ⟨A, c, rfl⟩ := hkx.form
 have hws := hw
 obtain ⟨A2, c2, rfl, hw2⟩ := hw
 clear hw2
 rw [hn] at hws ⊢
 rw [hk]
 obtain ⟨lb, hlb⟩ : ∃ l, x.lab = l := ⟨_, rfl⟩
 rw [hlb]
 obtain ⟨W0, hW0⟩ : ∃ W0, w.alloc (.cells #[.int .i64 6, .string lb, .slice A x.kids.length c] 25) = W0 := ⟨_, rfl⟩
 obtain ⟨hb0, hz0, hbx, hkd⟩ := boxed_kids hW0 hkx hN
 have HB0 := Lib.hid hb0
 have HBX := Lib.hid hbx
 have HKD := Lib.hid hkd
 have HSR := Lib.hid (fun W (h : Below W0.heap.size W0 W) => hws.bel ((hb0.mono hM).trans (h.mono (by omega))))
 have HLB := Lib.hid (And.intro hk hlb)
 obtain ⟨d0, d1, d2⟩ := hbx W0 (Below.refl _ _)
 have HN1 := Lib.hid (And.intro (show N ≤ W0.heap.size by omega) (show M ≤ W0.heap.size by omega))
 have HNO := Lib.hid (fun W (h : Below W0.heap.size W0 W) => none60_any W n hn1)
 have HST := Lib.hid (fun W (h : Below W0.heap.size W0 W) => still61_any W n hn1)
 have HWL := Lib.hid hn
 clear hkx hws hbx hkd hb0 hz0 hk hlb hN hM
 have HXA := Lib.hid hxa
 rw [hxa] at HKD d2 hW0 HBX ⊢
 clear hxa
 simp only [List.length_cons, List.length_nil, Nat.zero_add] at HKD d2 hW0 HBX ⊢
 go_enter Tryd.func74, Tryd.ntmps74
 go_upto_region 1 with (fail)
 try rw [hW0]
 go_upto_region 21 with (go_at_call 88; refine (HNO.out _ (Below.refl _ _)).mono ?_; rintro e w1 ⟨v1, rfl, hm1, hb1⟩; rw [none_p] at hm1; have H1 := Lib.hid (And.intro hm1 hb1); obtain ⟨d0, d1, d2⟩ := HBX.out _ hb1; clear hm1 hb1)
 obtain ⟨ad, ky, rfl, hab, a0, a1, a2, hky⟩ := (HKD.out w1 H1.out.2).at0
 have HS := Lib.hid (fun W (h : Below w1.heap.size w1 W) => And.intro ((HBX.out W (H1.out.2.trans (h.mono H1.out.2.size))).2.2) (And.intro ((World.cell?_of_block (h.block _ (by have := H1.out.2.size; have := HN1.out.1; omega))).trans a0) (And.intro ((World.cell?_of_block (a := ⟨ad.block, ad.off + 1, none⟩) (h.block _ (by show ad.block < _; have := H1.out.2.size; have := HN1.out.1; omega))).trans a1) ((World.cell?_of_block (a := ⟨ad.block, ad.off + 2, none⟩) (h.block _ (by show ad.block < _; have := H1.out.2.size; have := HN1.out.1; omega))).trans a2))))
 have HC := Lib.hid (fun W (h : Below w1.heap.size w1 W) => ih N M W _ _ ⟨ky, rfl, hky.bel (h.mono (Nat.le_trans HN1.out.1 H1.out.2.size))⟩ (HSR.out W (H1.out.2.trans (h.mono H1.out.2.size))) (Nat.le_trans HN1.out.1 (Nat.le_trans H1.out.2.size h.size)) (Nat.le_trans HN1.out.2 (Nat.le_trans H1.out.2.size h.size)))
 have G0 := Lib.hid (Below.refl w1.heap.size w1).drew
 clear a0 a1 a2 hky hab d0 d1 d2 ih HKD HBX HSR
 refine wp_region_noPanic ?_
 refine wp_region_held_drew (S := fun W => (W.cell? ⟨w.heap.size, 2, none⟩ = some (.slice (some ad) 1 c) ∧ W.cell? ad = some (.int .i64 a.kind) ∧ W.cell? ⟨ad.block, ad.off + 1, none⟩ = some (.string a.lab) ∧ W.cell? ⟨ad.block, ad.off + 2, none⟩ = some ky)) (by kernel_rfl) (HS.out _ G0.out) (fun hHeld => ?_)
 clear hHeld
 refine tkI (i := 0) (v := .int .i64 n) rfl ⟨by rfl, ?_⟩ (HS.out _ G0.out) ?_
 ·intro w hSw
  obtain ⟨hs0, hs1, hs2, hs3⟩ := hSw
  go_simp
 try simp only [Act.put, z1, z2, z3, z4, z5, z6]
 refine tkI (i := 2) (v := .pointer (some ⟨w.heap.size, 2, none⟩)) rfl ⟨by rfl, ?_⟩ (HS.out _ G0.out) ?_
 ·intro w hSw
  obtain ⟨hs0, hs1, hs2, hs3⟩ := hSw
  go_simp
 try simp only [Act.put, z1, z2, z3, z4, z5, z6]
 refine tkI (i := 3) (v := .slice (some ad) 1 c) rfl ⟨by rfl, ?_⟩ (HS.out _ G0.out) ?_
 ·intro w hSw
  obtain ⟨hs0, hs1, hs2, hs3⟩ := hSw
  go_simp
 try simp only [Act.put, z1, z2, z3, z4, z5, z6]
 refine tkI (i := 4) (v := .pointer (some ad)) rfl ⟨by rfl, ?_⟩ (HS.out _ G0.out) ?_
 ·intro w hSw
  obtain ⟨hs0, hs1, hs2, hs3⟩ := hSw
  go_simp
 try simp only [Act.put, z1, z2, z3, z4, z5, z6]
 refine tkI (i := 5) (v := .agg #[.int .i64 a.kind, .string a.lab, ky]) rfl ⟨by rfl, ?_⟩ (HS.out _ G0.out) ?_
 ·intro w hSw
  obtain ⟨hs0, hs1, hs2, hs3⟩ := hSw
  go_simp
 try simp only [Act.put, z1, z2, z3, z4, z5, z6]
 refine tkI (i := 6) (v := .slice A2 n c2) rfl ⟨by rfl, ?_⟩ (HS.out _ G0.out) ?_
 ·intro w hSw
  obtain ⟨hs0, hs1, hs2, hs3⟩ := hSw
  go_simp
 try simp only [Act.put, z1, z2, z3, z4, z5, z6]
 refine wpAnyH_ready (rs := [1]) (by kernel_rfl) (by simp) ?_
 refine AllReadyH.cons rfl (fun K hK => ?_) AllReadyH.nil
 go_simp
 refine (HST.out _ (H1.out.2.trans (G0.out.mono H1.out.2.size))).mono ?_
 rintro e y2 ⟨v2, rfl, hm, hb⟩
 have M2 := Lib.hid hm
 have G2 := Lib.hid (G0.out.trans (hb.mono G0.out.size))
 have D2 := Lib.hid hb
 clear hm hb
 refine hK.out _ _ (HS.out _ G2.out) (fun _ => ?_)
 clear hK
 try simp only [Act.put, z1, z2, z3, z4, z5, z6]
 refine wpAnyH_ready (rs := [7]) (by kernel_rfl) (by simp) ?_
 refine AllReadyH.cons rfl (fun K hK => ?_) AllReadyH.nil
 go_simp
 refine (HC.out _ G2.out).mono ?_
 rintro e y7 ⟨v7, rfl, hm, hb⟩
 have M7 := Lib.hid hm
 have G7 := Lib.hid (G2.out.trans (hb.mono G2.out.size))
 have D7 := Lib.hid hb
 clear hm hb
 refine hK.out _ _ (HS.out _ G7.out) (fun _ => ?_)
 clear hK
 try simp only [Act.put, z1, z2, z3, z4, z5, z6]
 refine wpAnyH_ready (rs := [8]) (by kernel_rfl) (by simp) ?_
 refine AllReadyH.cons rfl (fun K hK => ?_) AllReadyH.nil
 go_simp
 refine (either63_any hn1 (M2.out.bel D7.out) M7.out).mono ?_
 rintro e y8 ⟨v8, rfl, hm, hb⟩
 have M8 := Lib.hid hm
 have G8 := Lib.hid (G7.out.trans (hb.mono G7.out.size))
 have D8 := Lib.hid hb
 clear hm hb
 refine hK.out _ _ (HS.out _ G8.out) (fun _ => ?_)
 clear hK
 try simp only [Act.put, z1, z2, z3, z4, z5, z6]
 refine tkI (i := 9) (v := v8) rfl ⟨by rfl, ?_⟩ (HS.out _ G8.out) ?_
 ·intro w hSw
  obtain ⟨hs0, hs1, hs2, hs3⟩ := hSw
  go_simp
 try simp only [Act.put, z1, z2, z3, z4, z5, z6]
 refine ⟨by kernel_rfl, ?_⟩
 refine NoPanic.normal ?_
 go_wp2_with fail
 go_ret
 refine ⟨_, rfl, (M8.out.mono (Nat.zero_le _)).ext_p (fun i j hi hj => ?_), HB0.out.trans ((H1.out.2.trans (G8.out.mono H1.out.2.size)).mono HB0.out.size)⟩
 rw [Bt_opt _ HLB.out.1 HXA.out]
 constructor
 ·rintro ⟨_, h⟩; exact h
 ·rintro (h | h)
  ·exact ⟨Nat.le_of_eq h, .inl h⟩
  ·exact ⟨h.1, .inr h⟩

set_option maxRecDepth 100000 in
set_option maxHeartbeats 4000000 in
theorem ways_star {word : Wd} {n : Nat} (hn : word.length = n) (hn1 : n ≤ 100000) {x a : X} (hk : x.kind = 4) (hxa : x.kids = [a]) (ih : S43 word n a) : S43 word n x := by
 intro N M w v wv hx hw hN hM
 obtain ⟨kx, rfl, hkx⟩ := hx
 obtain ⟨A, c, rfl⟩ := hkx.form
 have hws := hw
 obtain ⟨A2, c2, rfl, hw2⟩ := hw
 clear hw2
 rw [hn] at hws ⊢
 rw [hk]
 obtain ⟨lb, hlb⟩ : ∃ l, x.lab = l := ⟨_, rfl⟩
 rw [hlb]
 obtain ⟨W0, hW0⟩ : ∃ W0, w.alloc (.cells #[.int .i64 4, .string lb, .slice A x.kids.length c] 25) = W0 := ⟨_, rfl⟩
 obtain ⟨hb0, hz0, hbx, hkd⟩ := boxed_kids hW0 hkx hN
 have HB0 := Lib.hid hb0
 have HBX := Lib.hid hbx
 have HKD := Lib.hid hkd
 have HSR := Lib.hid (fun W (h : Below W0.heap.size W0 W) => hws.bel ((hb0.mono hM).trans (h.mono (by omega))))
 have HLB := Lib.hid (And.intro hk hlb)
 obtain ⟨d0, d1, d2⟩ := hbx W0 (Below.refl _ _)
 have HN1 := Lib.hid (And.intro (show N ≤ W0.heap.size by omega) (show M ≤ W0.heap.size by omega))
 have HNO := Lib.hid (fun W (h : Below W0.heap.size W0 W) => none60_any W n hn1)
 have HST := Lib.hid (fun W (h : Below W0.heap.size W0 W) => still61_any W n hn1)
 have HWL := Lib.hid hn
 clear hkx hws hbx hkd hb0 hz0 hk hlb hN hM
 have HXA := Lib.hid hxa
 rw [hxa] at HKD d2 hW0 HBX ⊢
 clear hxa
 simp only [List.length_cons, List.length_nil, Nat.zero_add] at HKD d2 hW0 HBX ⊢
 go_enter Tryd.func74, Tryd.ntmps74
 go_upto_region 1 with (fail)
 try rw [hW0]
 go_upto_region 24 with (go_at_call 88; refine (HNO.out _ (Below.refl _ _)).mono ?_; rintro e w1 ⟨v1, rfl, hm1, hb1⟩; rw [none_p] at hm1; have H1 := Lib.hid (And.intro hm1 hb1); obtain ⟨d0, d1, d2⟩ := HBX.out _ hb1; clear hm1 hb1)
 obtain ⟨ad, ky, rfl, hab, a0, a1, a2, hky⟩ := (HKD.out w1 H1.out.2).at0
 have HC := Lib.hid (ih N M w1 _ _ ⟨ky, rfl, hky⟩ (HSR.out w1 H1.out.2) (Nat.le_trans HN1.out.1 H1.out.2.size) (Nat.le_trans HN1.out.2 H1.out.2.size))
 clear ih hky
 go_upto_region 27 with (first
  | (go_at_call 74; refine HC.out.mono ?_; rintro e w2 ⟨v2, rfl, hm2, hb2⟩; have M2 := Lib.hid (And.intro hm2 (H1.out.2.trans (hb2.mono H1.out.2.size))); clear hm2 hb2)
  | (go_at_call 89; refine (HST.out _ M2.out.2).mono ?_; rintro e w3 ⟨v3, rfl, hm3, hb3⟩; have M3 := Lib.hid (And.intro hm3 hb3); clear hm3 hb3)
  | (go_at_call 91; refine (either63_any hn1 M3.out.1 (M2.out.1.bel M3.out.2)).mono ?_; rintro e w4 ⟨v4, rfl, hm4, hb4⟩; have M4 := Lib.hid (And.intro hm4 hb4); clear hm4 hb4))
 have hb24 : Below w2.heap.size w2 w4 := M3.out.2.trans (M4.out.2.mono M3.out.2.size)
 have HW4 := Lib.hid (M2.out.2.trans (hb24.mono M2.out.2.size))
 have HONE := Lib.hid (M2.out.1.bel hb24)
 clear hb24 d0 d1 d2 a0 a1 a2
 go_loopw [6, 11] (fun u6 u11 wr => ∃ m : Nat, 1 ≤ m ∧ m ≤ 2 * n + 1 ∧ u11 = .int .i64 m ∧ Mt 0 wr u6 n (pF (St (Bt (wdF word) a.L) m)) ∧ Below w4.heap.size w4 wr) (fun u6 u11 _ => n + 1 - (intOf u11).toNat)
 case atStart =>
  refine ⟨1, Nat.le_refl _, by omega, rfl, (M4.out.1.mono (Nat.zero_le _)).ext_p (fun i j _ _ => ?_), Below.refl _ _⟩
  rw [St_one]
  constructor
  ·rintro ⟨_, h⟩; exact h
  ·rintro (h | h)
   ·exact ⟨Nat.le_of_eq h, .inl h⟩
   ·exact ⟨h.1, .inr h⟩
 case round =>
  obtain ⟨m, hm1, hm2, rfl, hm, hb⟩ := hrel
  have HR := Lib.hid (And.intro hm hb)
  have hbw := HW4.out.trans (hb.mono HW4.out.size)
  have HBW := Lib.hid hbw
  obtain ⟨d0, d1, d2⟩ := HBX.out wr hbw
  clear hm hb hbw
  by_cases hmn : m < n
  ·have hmi : (m : Int) < (n : Int) := by omega
   go_wp2_with (go_at_call 90; refine (joined62_any hn1 HR.out.1 HR.out.1).mono ?_; rintro e w5 ⟨v5, rfl, hm5, hb5⟩; have HM5 := Lib.hid (And.intro hm5 hb5); clear hm5 hb5)
   go_roundw
   case rel =>
    refine ⟨2 * m, by omega, by omega, by go_num, (HM5.out.1.mono (Nat.zero_le _)).ext_p (fun i j _ _ => ?_), HR.out.2.trans (HM5.out.2.mono HR.out.2.size)⟩
    rw [show 2 * m = m + m by omega, St_add]
    constructor
    ·rintro ⟨l, _, _, h1, h2⟩; exact ⟨l, h1, h2⟩
    ·rintro ⟨l, h1, h2⟩; exact ⟨l, St.le (fun _ _ h => Bt.le h) h1, St.le (fun _ _ h => Bt.le h) h2, h1, h2⟩
   case measure => simp [intOf]; omega
  ·have hmi : ¬ (m : Int) < (n : Int) := by omega
   go_wp2_with fail
   go_ret
   refine ⟨_, rfl, HR.out.1.ext_p (fun i j hi hj => ?_), HB0.out.trans (HBW.out.mono HB0.out.size)⟩
   exact (Bt_star _ HLB.out.1 HXA.out (by omega)).symm
set_option maxRecDepth 100000 in
set_option maxHeartbeats 4000000 in
theorem ways_plus {word : Wd} {n : Nat} (hn : word.length = n) (hn1 : n ≤ 100000) {x a : X} (hk : x.kind = 5) (hxa : x.kids = [a]) (ih : S43 word n a) : S43 word n x := by
 intro N M w v wv hx hw hN hM
 obtain ⟨kx, rfl, hkx⟩ := hx
 obtain ⟨A, c, rfl⟩ := hkx.form
 have hws := hw
 obtain ⟨A2, c2, rfl, hw2⟩ := hw
 clear hw2
 rw [hn] at hws ⊢
 rw [hk]
 obtain ⟨lb, hlb⟩ : ∃ l, x.lab = l := ⟨_, rfl⟩
 rw [hlb]
 obtain ⟨W0, hW0⟩ : ∃ W0, w.alloc (.cells #[.int .i64 5, .string lb, .slice A x.kids.length c] 25) = W0 := ⟨_, rfl⟩
 obtain ⟨hb0, hz0, hbx, hkd⟩ := boxed_kids hW0 hkx hN
 have HB0 := Lib.hid hb0
 have HBX := Lib.hid hbx
 have HKD := Lib.hid hkd
 have HSR := Lib.hid (fun W (h : Below W0.heap.size W0 W) => hws.bel ((hb0.mono hM).trans (h.mono (by omega))))
 have HLB := Lib.hid (And.intro hk hlb)
 obtain ⟨d0, d1, d2⟩ := hbx W0 (Below.refl _ _)
 have HN1 := Lib.hid (And.intro (show N ≤ W0.heap.size by omega) (show M ≤ W0.heap.size by omega))
 have HNO := Lib.hid (fun W (h : Below W0.heap.size W0 W) => none60_any W n hn1)
 have HST := Lib.hid (fun W (h : Below W0.heap.size W0 W) => still61_any W n hn1)
 have HWL := Lib.hid hn
 clear hkx hws hbx hkd hb0 hz0 hk hlb hN hM
 have HXA := Lib.hid hxa
 rw [hxa] at HKD d2 hW0 HBX ⊢
 clear hxa
 simp only [List.length_cons, List.length_nil, Nat.zero_add] at HKD d2 hW0 HBX ⊢
 go_enter Tryd.func74, Tryd.ntmps74
 go_upto_region 1 with (fail)
 try rw [hW0]
 go_upto_region 24 with (go_at_call 88; refine (HNO.out _ (Below.refl _ _)).mono ?_; rintro e w1 ⟨v1, rfl, hm1, hb1⟩; rw [none_p] at hm1; have H1 := Lib.hid (And.intro hm1 hb1); obtain ⟨d0, d1, d2⟩ := HBX.out _ hb1; clear hm1 hb1)
 obtain ⟨ad, ky, rfl, hab, a0, a1, a2, hky⟩ := (HKD.out w1 H1.out.2).at0
 have HC := Lib.hid (ih N M w1 _ _ ⟨ky, rfl, hky⟩ (HSR.out w1 H1.out.2) (Nat.le_trans HN1.out.1 H1.out.2.size) (Nat.le_trans HN1.out.2 H1.out.2.size))
 clear ih hky
 go_upto_region 27 with (first
  | (go_at_call 74; refine HC.out.mono ?_; rintro e w2 ⟨v2, rfl, hm2, hb2⟩; have M2 := Lib.hid (And.intro hm2 (H1.out.2.trans (hb2.mono H1.out.2.size))); clear hm2 hb2)
  | (go_at_call 89; refine (HST.out _ M2.out.2).mono ?_; rintro e w3 ⟨v3, rfl, hm3, hb3⟩; have M3 := Lib.hid (And.intro hm3 hb3); clear hm3 hb3)
  | (go_at_call 91; refine (either63_any hn1 M3.out.1 (M2.out.1.bel M3.out.2)).mono ?_; rintro e w4 ⟨v4, rfl, hm4, hb4⟩; have M4 := Lib.hid (And.intro hm4 hb4); clear hm4 hb4))
 have hb24 : Below w2.heap.size w2 w4 := M3.out.2.trans (M4.out.2.mono M3.out.2.size)
 have HW4 := Lib.hid (M2.out.2.trans (hb24.mono M2.out.2.size))
 have HONE := Lib.hid (M2.out.1.bel hb24)
 clear hb24 d0 d1 d2 a0 a1 a2
 go_loopw [6, 11] (fun u6 u11 wr => ∃ m : Nat, 1 ≤ m ∧ m ≤ 2 * n + 1 ∧ u11 = .int .i64 m ∧ Mt 0 wr u6 n (pF (St (Bt (wdF word) a.L) m)) ∧ Below w4.heap.size w4 wr) (fun u6 u11 _ => n + 1 - (intOf u11).toNat)
 case atStart =>
  refine ⟨1, Nat.le_refl _, by omega, rfl, (M4.out.1.mono (Nat.zero_le _)).ext_p (fun i j _ _ => ?_), Below.refl _ _⟩
  rw [St_one]
  constructor
  ·rintro ⟨_, h⟩; exact h
  ·rintro (h | h)
   ·exact ⟨Nat.le_of_eq h, .inl h⟩
   ·exact ⟨h.1, .inr h⟩
 case round =>
  obtain ⟨m, hm1, hm2, rfl, hm, hb⟩ := hrel
  have HR := Lib.hid (And.intro hm hb)
  have hbw := HW4.out.trans (hb.mono HW4.out.size)
  have HBW := Lib.hid hbw
  obtain ⟨d0, d1, d2⟩ := HBX.out wr hbw
  clear hm hb hbw
  by_cases hmn : m < n
  ·have hmi : (m : Int) < (n : Int) := by omega
   go_wp2_with (go_at_call 90; refine (joined62_any hn1 HR.out.1 HR.out.1).mono ?_; rintro e w5 ⟨v5, rfl, hm5, hb5⟩; have HM5 := Lib.hid (And.intro hm5 hb5); clear hm5 hb5)
   go_roundw
   case rel =>
    refine ⟨2 * m, by omega, by omega, by go_num, (HM5.out.1.mono (Nat.zero_le _)).ext_p (fun i j _ _ => ?_), HR.out.2.trans (HM5.out.2.mono HR.out.2.size)⟩
    rw [show 2 * m = m + m by omega, St_add]
    constructor
    ·rintro ⟨l, _, _, h1, h2⟩; exact ⟨l, h1, h2⟩
    ·rintro ⟨l, h1, h2⟩; exact ⟨l, St.le (fun _ _ h => Bt.le h) h1, St.le (fun _ _ h => Bt.le h) h2, h1, h2⟩
   case measure => simp [intOf]; omega
  ·have hmi : ¬ (m : Int) < (n : Int) := by omega
   have HO := Lib.hid (HONE.out.bel HR.out.2)
   go_wp2_with (go_at_call 90; refine (joined62_any hn1 HO.out HR.out.1).mono ?_; rintro e w5 ⟨v5, rfl, hm5, hb5⟩; have HM5 := Lib.hid (And.intro hm5 hb5); clear hm5 hb5)
   go_ret
   refine ⟨_, rfl, (HM5.out.1.mono (Nat.zero_le _)).ext_p (fun i j hi hj => ?_), HB0.out.trans ((HBW.out.trans (HM5.out.2.mono HBW.out.size)).mono HB0.out.size)⟩
   rw [Bt_plus _ HLB.out.1 HXA.out (m := m) (by omega)]
   constructor
   ·rintro ⟨l, _, _, h1, h2⟩; exact ⟨l, h1, h2⟩
   ·rintro ⟨l, h1, h2⟩; exact ⟨l, h1.1, St.le (fun _ _ h => Bt.le h) h2, h1, h2⟩
theorem good_one {x : X} (hg : x.good) (hk : x.kind = 4 ∨ x.kind = 5 ∨ x.kind = 6) : ∃ a, x.kids = [a] := by
 have h := hg.fit
 unfold X.fits fitB at h
 rw [if_neg (by omega), if_neg (by omega), if_pos hk, Bool.and_eq_true, decide_eq_true_iff, decide_eq_true_iff] at h
 match hx : x.kids, h.2 with
 | [a], _ => exact ⟨a, rfl⟩
theorem good_kind6 {x : X} (hg : x.good) : x.kind = 1 ∨ x.kind = 2 ∨ x.kind = 3 ∨ x.kind = 4 ∨ x.kind = 5 ∨ x.kind = 6 := by
 have h := hg.fit
 unfold X.fits fitB at h
 by_cases h1 : x.kind = 1
 ·exact .inl h1
 ·rw [if_neg h1] at h
  by_cases h2 : x.kind = 2 ∨ x.kind = 3
  ·omega
  ·rw [if_neg h2] at h
   by_cases h4 : x.kind = 4 ∨ x.kind = 5 ∨ x.kind = 6
   ·omega
   ·rw [if_neg h4] at h; cases h
theorem ways43_any {word : Wd} {n : Nat} (hn : word.length = n) (hn1 : n ≤ 100000) : ∀ x : X, x.sz ≤ 100000 → x.good → S43 word n x := by
 intro x
 induction x using X.ind' with
 | h x ih =>
  intro hsz hg
  have hle : szL x.kids ≤ 100000 := by have := x.sz_eq; omega
  have ih' : ∀ y ∈ x.kids, S43 word n y := fun y hy => ih y hy (by have := szL_mem hy; omega) (hg.kids y hy)
  rcases good_kind6 hg with h | h | h | h | h | h
  ·exact ways_label hn hn1 h
  ·exact ways_seq hn hn1 h (by have := len_szL x.kids; omega) ih'
  ·exact ways_alt hn hn1 h (by have := len_szL x.kids; omega) ih'
  ·obtain ⟨a, ha⟩ := good_one hg (by omega)
   exact ways_star hn hn1 h ha (ih' a (by rw [ha]; simp))
  ·obtain ⟨a, ha⟩ := good_one hg (by omega)
   exact ways_plus hn hn1 h ha (ih' a (by rw [ha]; simp))
  ·obtain ⟨a, ha⟩ := good_one hg (by omega)
   exact ways_opt hn hn1 h ha (ih' a (by rw [ha]; simp))
end Go.Proofs.YtnccgaanfjaimaaDoor

namespace Go.Proofs.YtnccgaanfjaimaaDoor
open Go.ChangeShapes Go.WideShapes Go.ChangeAt Go.RowKit
set_option linter.unusedVariables false
set_option linter.unusedSimpArgs false

attribute [local go_sem] Oper.semAt_some

theorem ways_takes {x : X} (hr : x.right = true) (word : Wd) : pF (Bt (wdF word) x.L) 0 word.length = takesB x word := by
 apply bool_ext
 rw [pF_iff, takesB_iff]
 unfold Bt
 have e : seg (wdF word) 0 word.length = word := seg_word word
 rw [e]
 exact ⟨fun h => ⟨hr, h.2⟩, fun h => ⟨Nat.zero_le _, h.2⟩⟩

set_option maxRecDepth 100000 in
set_option maxHeartbeats 4000000 in
theorem rtakes_any {N M : Nat} {w : World} {v wv : Value} {x : X} {word : Wd} (hx : XV N w v x) (hN : N ≤ w.heap.size) (hsz : x.sz ≤ 100000) (hl : x.lit) (hw : SR M w wv word) (hM : M ≤ w.heap.size) (hwl : word.length ≤ 100000) :
  Calls Tryd.prog 59 #[v, wv] w fun e w' => e = .returned (.bool (takesB x word)) ∧ Below w.heap.size w w' := by
 have hxv := hx
 obtain ⟨kx, rfl, hkx⟩ := hx
 obtain ⟨A, c, rfl⟩ := hkx.form
 have hws := hw
 obtain ⟨A2, c2, rfl, hw2⟩ := hw
 clear hw2
 obtain ⟨n, hn⟩ : ∃ n, word.length = n := ⟨_, rfl⟩
 rw [hn] at hws hwl ⊢
 obtain ⟨W0, hW0⟩ : ∃ W0, w.alloc (.cells #[.int .i64 x.kind, .string x.lab, .slice A x.kids.length c] 25) = W0 := ⟨_, rfl⟩
 obtain ⟨hb0, hz0, hbx, hkd⟩ := boxed_kids hW0 hkx hN
 have HB0 := Lib.hid hb0
 have HBX := Lib.hid hbx
 have hxW : ∀ W, Below W0.heap.size W0 W → XV N W (.agg #[.int .i64 x.kind, .string x.lab, .slice A x.kids.length c]) x := fun W h => hxv.bel ((hb0.mono hN).trans (h.mono (by omega)))
 have HR := Lib.hid (fun W (h : Below W0.heap.size W0 W) => calls_base (rright_any (hxW W h) (Nat.le_trans hN (Nat.le_trans hb0.size h.size)) hsz hl) h)
 obtain ⟨d0, d1, d2⟩ := hbx W0 (Below.refl _ _)
 obtain ⟨rt, hrt⟩ : ∃ rt, x.right = rt := ⟨_, rfl⟩
 rw [hrt] at HR
 cases rt with
 | false =>
  have htk : takesB x word = false := by
   cases h : takesB x word with
   | false => rfl
   | true =>
    have := ((takesB_iff x word).1 h).1
    rw [hrt] at this
    cases this
  rw [htk]
  clear htk hrt hxv hxW hkx hws hbx hkd hb0 hn
  generalize x.kind = kd at *
  generalize x.lab = lb at *
  generalize x.kids.length = kn at *
  go_enter Tryd.func59, Tryd.ntmps59
  go_upto_region 1 with (fail)
  try rw [hW0]
  go_wp2_with (go_at_call 46; refine (HR.out _ (Below.refl _ _)).mono ?_; rintro e w1 ⟨rfl, h1⟩; have H1 := Lib.hid h1; clear h1)
  go_ret
  exact ⟨rfl, HB0.out.trans (H1.out.mono HB0.out.size)⟩
 | true =>
  have HTK := Lib.hid (ways_takes hrt word)
  rw [hn] at HTK
  have hgood := (right_good hrt).1
  have HW := Lib.hid (fun W (h : Below W0.heap.size W0 W) => ways43_any hn hwl x hsz hgood N M W _ _ (hxW W h) (hws.bel ((hb0.mono hM).trans (h.mono (by omega)))) (Nat.le_trans hN (Nat.le_trans hb0.size h.size)) (Nat.le_trans hM (Nat.le_trans hb0.size h.size)))
  clear hrt hxv hxW hkx hws hbx hkd hb0 hn
  obtain ⟨tk, htk⟩ : ∃ tk, takesB x word = tk := ⟨_, rfl⟩
  rw [htk] at HTK ⊢
  clear htk hgood
  generalize x.kind = kd at *
  generalize x.lab = lb at *
  generalize x.kids.length = kn at *
  go_enter Tryd.func59, Tryd.ntmps59
  go_upto_region 1 with (fail)
  try rw [hW0]
  go_upto_region 4 with (first
   | (go_at_call 46; refine (HR.out _ (Below.refl _ _)).mono ?_; rintro e w1 ⟨rfl, h1⟩; have H1 := Lib.hid h1; obtain ⟨d0, d1, d2⟩ := HBX.out _ h1; clear h1)
   | (go_at_call 74; refine (HW.out _ H1.out).mono ?_; rintro e w2 ⟨v2, rfl, hm2, hb2⟩; have H2 := Lib.hid (And.intro hm2 hb2); clear hm2 hb2))
  obtain ⟨g, cg, r, rfl, hcg, hmt⟩ := H2.out.1
  have c1 := hmt.cell (Nat.zero_le n)
  have c2' := hmt.flag (Nat.zero_le n) (Nat.le_refl n)
  rw [HTK.out] at c2'
  generalize r 0 = r0 at *
  have hni : (n : Int) < (n : Int) + 1 := by omega
  have hn1 : n < n + 1 := Nat.lt_succ_self n
  clear hmt d0 d1 d2
  go_wp2_with fail
  go_ret
  exact ⟨rfl, HB0.out.trans ((H1.out.trans (H2.out.2.mono H1.out.size)).mono HB0.out.size)⟩

set_option maxHeartbeats 1000000 in
theorem rempty_any {N : Nat} {w : World} {v : Value} {x : X} (hx : XV N w v x) (hN : N ≤ w.heap.size) (hsz : x.sz ≤ 100000) (hl : x.lit) :
  Calls Tryd.prog 47 #[v] w fun e w' => e = .returned (.bool (takesB x [])) ∧ Below w.heap.size w w' := by
 have hxv := hx
 obtain ⟨kx, rfl, hkx⟩ := hx
 obtain ⟨A, c, rfl⟩ := hkx.form
 obtain ⟨W0, hW0⟩ : ∃ W0, w.alloc (.cells #[.int .i64 x.kind, .string x.lab, .slice A x.kids.length c] 25) = W0 := ⟨_, rfl⟩
 obtain ⟨hb0, hz0, hbx, hkd⟩ := boxed_kids hW0 hkx hN
 have HB0 := Lib.hid hb0
 have HT := Lib.hid (rtakes_any (hxv.bel (hb0.mono hN)) (Nat.le_trans hN hb0.size) hsz hl (⟨none, 0, rfl, fun h => absurd h (Nat.lt_irrefl _)⟩ : SR 0 W0 (.slice none 0 0) []) (Nat.zero_le _) (Nat.zero_le _))
 obtain ⟨d0, d1, d2⟩ := hbx W0 (Below.refl _ _)
 clear hxv hkx hbx hkd hb0
 obtain ⟨tk, htk⟩ : ∃ tk, takesB x [] = tk := ⟨_, rfl⟩
 rw [htk] at HT ⊢
 clear htk
 generalize x.kind = kd at *
 generalize x.lab = lb at *
 generalize x.kids.length = kn at *
 go_enter Tryd.func47, Tryd.ntmps47
 go_upto_region 1 with (fail)
 try rw [hW0]
 go_wp2_with (go_at_call 59; refine HT.out.mono ?_; rintro e w1 ⟨rfl, h1⟩; have H1 := Lib.hid h1; clear h1)
 go_ret
 exact ⟨rfl, HB0.out.trans (H1.out.mono HB0.out.size)⟩
end Go.Proofs.YtnccgaanfjaimaaDoor

namespace Go.Proofs.YtnccgaanfjaimaaDoor
open Go.ChangeShapes Go.WideShapes Go.ChangeAt Go.RowKit
set_option linter.unusedVariables false
set_option linter.unusedSimpArgs false

def KF (ks : List X) (a i p : Nat) : Prop := ∃ x, ks[i]? = some x ∧ x.fst (a + pnL (ks.take i)) p = true
def KL (ks : List X) (a i p : Nat) : Prop := ∃ x, ks[i]? = some x ∧ x.lst (a + pnL (ks.take i)) p = true
def KO (ks : List X) (a i p q : Nat) : Prop := ∃ x, ks[i]? = some x ∧ x.fol (a + pnL (ks.take i)) p q = true
def Em (ks : List X) (i j : Nat) : Prop := ∀ k, i ≤ k → k < j → ∀ x, ks[k]? = some x → x.emp = true

theorem KF_zero (x : X) (xs : List X) (a p : Nat) : KF (x :: xs) a 0 p ↔ x.fst a p = true := by
 unfold KF
 simp [pnL_nil]
theorem KL_zero (x : X) (xs : List X) (a p : Nat) : KL (x :: xs) a 0 p ↔ x.lst a p = true := by
 unfold KL
 simp [pnL_nil]
theorem KO_zero (x : X) (xs : List X) (a p q : Nat) : KO (x :: xs) a 0 p q ↔ x.fol a p q = true := by
 unfold KO
 simp [pnL_nil]
theorem KF_succ (x : X) (xs : List X) (a i p : Nat) : KF (x :: xs) a (i + 1) p ↔ KF xs (a + x.pn) i p := by
 unfold KF
 simp only [List.getElem?_cons_succ, List.take_succ_cons, pnL_cons, Nat.add_assoc]
theorem KL_succ (x : X) (xs : List X) (a i p : Nat) : KL (x :: xs) a (i + 1) p ↔ KL xs (a + x.pn) i p := by
 unfold KL
 simp only [List.getElem?_cons_succ, List.take_succ_cons, pnL_cons, Nat.add_assoc]
theorem KO_succ (x : X) (xs : List X) (a i p q : Nat) : KO (x :: xs) a (i + 1) p q ↔ KO xs (a + x.pn) i p q := by
 unfold KO
 simp only [List.getElem?_cons_succ, List.take_succ_cons, pnL_cons, Nat.add_assoc]
theorem Em_succ (x : X) (xs : List X) (i j : Nat) : Em (x :: xs) (i + 1) (j + 1) ↔ Em xs i j := by
 constructor
 ·intro h k hk hj y hy
  exact h (k + 1) (by omega) (by omega) y (by simpa using hy)
 ·intro h k hk hj y hy
  obtain ⟨k, rfl⟩ : ∃ k', k = k' + 1 := ⟨k - 1, by omega⟩
  exact h k (by omega) (by omega) y (by simpa using hy)
theorem Em_nil (ks : List X) (i : Nat) : Em ks i i := fun k h1 h2 => absurd h1 (by omega)
theorem Em_zero (x : X) (xs : List X) (j : Nat) : Em (x :: xs) 0 (j + 1) ↔ x.emp = true ∧ Em xs 0 j := by
 rw [← Em_succ x xs 0 j]
 constructor
 ·intro h
  exact ⟨h 0 (Nat.le_refl _) (by omega) x rfl, fun k h1 h2 => h k (by omega) h2⟩
 ·rintro ⟨h1, h2⟩ k _ hk y hy
  by_cases e : k = 0
  ·subst e
   obtain rfl : x = y := by simpa using hy
   exact h1
  ·exact h2 k (by omega) hk y hy
theorem Em_more {ks : List X} {i j : Nat} {x : X} (hx : ks[j]? = some x) (hij : i ≤ j) : Em ks i (j + 1) ↔ Em ks i j ∧ x.emp = true := by
 constructor
 ·intro h
  exact ⟨fun k h1 h2 => h k h1 (by omega), h j hij (Nat.lt_succ_self _) x hx⟩
 ·rintro ⟨h1, h2⟩ k hk hj y hy
  by_cases e : k = j
  ·subst e
   rw [hx] at hy
   injection hy with hy
   rw [← hy]; exact h2
  ·exact h1 k hk (by omega) y hy
theorem allE_Em : ∀ xs : List X, allE xs = true ↔ Em xs 0 xs.length
 | [] => by simp [allE, Em]
 | x :: xs => by
  rw [allE, Bool.and_eq_true, List.length_cons, Em_zero, allE_Em xs]
theorem fstS_iff : ∀ (ks : List X) (a p : Nat), fstS ks a p = true ↔ ∃ i, KF ks a i p ∧ Em ks 0 i
 | [], a, p => by simp [fstS, KF]
 | x :: xs, a, p => by
  rw [fstS, Bool.or_eq_true, Bool.and_eq_true, fstS_iff xs]
  constructor
  ·rintro (h | ⟨h1, i, h2, h3⟩)
   ·exact ⟨0, (KF_zero ..).2 h, Em_nil _ _⟩
   ·exact ⟨i + 1, (KF_succ ..).2 h2, (Em_zero ..).2 ⟨h1, h3⟩⟩
  ·rintro ⟨i, h2, h3⟩
   cases i with
   | zero => exact .inl ((KF_zero ..).1 h2)
   | succ i => exact .inr ⟨((Em_zero ..).1 h3).1, i, (KF_succ ..).1 h2, ((Em_zero ..).1 h3).2⟩
theorem fstA_iff : ∀ (ks : List X) (a p : Nat), fstA ks a p = true ↔ ∃ i, KF ks a i p
 | [], a, p => by simp [fstA, KF]
 | x :: xs, a, p => by
  rw [fstA, Bool.or_eq_true, fstA_iff xs]
  constructor
  ·rintro (h | ⟨i, h2⟩)
   ·exact ⟨0, (KF_zero ..).2 h⟩
   ·exact ⟨i + 1, (KF_succ ..).2 h2⟩
  ·rintro ⟨i, h2⟩
   cases i with
   | zero => exact .inl ((KF_zero ..).1 h2)
   | succ i => exact .inr ⟨i, (KF_succ ..).1 h2⟩
theorem lstS_iff : ∀ (ks : List X) (a p : Nat), lstS ks a p = true ↔ ∃ i, KL ks a i p ∧ Em ks (i + 1) ks.length
 | [], a, p => by simp [lstS, KL]
 | x :: xs, a, p => by
  rw [lstS, Bool.or_eq_true, Bool.and_eq_true, lstS_iff xs, List.length_cons, allE_Em]
  constructor
  ·rintro (⟨h, h1⟩ | ⟨i, h2, h3⟩)
   ·exact ⟨0, (KL_zero ..).2 h1, (Em_succ ..).2 h⟩
   ·exact ⟨i + 1, (KL_succ ..).2 h2, (Em_succ ..).2 h3⟩
  ·rintro ⟨i, h2, h3⟩
   cases i with
   | zero => exact .inl ⟨(Em_succ ..).1 h3, (KL_zero ..).1 h2⟩
   | succ i => exact .inr ⟨i, (KL_succ ..).1 h2, (Em_succ ..).1 h3⟩
theorem lstA_iff : ∀ (ks : List X) (a p : Nat), lstA ks a p = true ↔ ∃ i, KL ks a i p
 | [], a, p => by simp [lstA, KL]
 | x :: xs, a, p => by
  rw [lstA, Bool.or_eq_true, lstA_iff xs]
  constructor
  ·rintro (h | ⟨i, h2⟩)
   ·exact ⟨0, (KL_zero ..).2 h⟩
   ·exact ⟨i + 1, (KL_succ ..).2 h2⟩
  ·rintro ⟨i, h2⟩
   cases i with
   | zero => exact .inl ((KL_zero ..).1 h2)
   | succ i => exact .inr ⟨i, (KL_succ ..).1 h2⟩
theorem folA_iff : ∀ (ks : List X) (a p q : Nat), folA ks a p q = true ↔ ∃ i, KO ks a i p q
 | [], a, p, q => by simp [folA, KO]
 | x :: xs, a, p, q => by
  rw [folA, Bool.or_eq_true, folA_iff xs]
  constructor
  ·rintro (h | ⟨i, h2⟩)
   ·exact ⟨0, (KO_zero ..).2 h⟩
   ·exact ⟨i + 1, (KO_succ ..).2 h2⟩
  ·rintro ⟨i, h2⟩
   cases i with
   | zero => exact .inl ((KO_zero ..).1 h2)
   | succ i => exact .inr ⟨i, (KO_succ ..).1 h2⟩
theorem folS_iff : ∀ (ks : List X) (a p q : Nat), folS ks a p q = true ↔ (∃ i, KO ks a i p q) ∨ ∃ i k, i < k ∧ KL ks a i p ∧ KF ks a k q ∧ Em ks (i + 1) k
 | [], a, p, q => by simp [folS, KO, KL]
 | x :: xs, a, p, q => by
  rw [folS, Bool.or_eq_true, Bool.or_eq_true, Bool.and_eq_true, folS_iff xs, fstS_iff]
  constructor
  ·rintro ((h | ⟨i, h2⟩ | ⟨i, k, h1, h2, h3, h4⟩) | ⟨h1, k, h2, h3⟩)
   ·exact .inl ⟨0, (KO_zero ..).2 h⟩
   ·exact .inl ⟨i + 1, (KO_succ ..).2 h2⟩
   ·exact .inr ⟨i + 1, k + 1, by omega, (KL_succ ..).2 h2, (KF_succ ..).2 h3, (Em_succ ..).2 h4⟩
   ·exact .inr ⟨0, k + 1, by omega, (KL_zero ..).2 h1, (KF_succ ..).2 h2, (Em_succ ..).2 h3⟩
  ·rintro (⟨i, h2⟩ | ⟨i, k, h1, h2, h3, h4⟩)
   ·cases i with
    | zero => exact .inl (.inl ((KO_zero ..).1 h2))
    | succ i => exact .inl (.inr (.inl ⟨i, (KO_succ ..).1 h2⟩))
   ·obtain ⟨k, rfl⟩ : ∃ k', k = k' + 1 := ⟨k - 1, by omega⟩
    cases i with
    | zero => exact .inr ⟨(KL_zero ..).1 h2, k, (KF_succ ..).1 h3, (Em_succ ..).1 h4⟩
    | succ i => exact .inl (.inr (.inr ⟨i, k, by omega, (KL_succ ..).1 h2, (KF_succ ..).1 h3, (Em_succ ..).1 h4⟩))
theorem KF_lt {ks : List X} {a i p : Nat} (h : KF ks a i p) : i < ks.length := by
 obtain ⟨x, h1, _⟩ := h
 exact (List.getElem?_eq_some_iff.1 h1).1
theorem KL_lt {ks : List X} {a i p : Nat} (h : KL ks a i p) : i < ks.length := by
 obtain ⟨x, h1, _⟩ := h
 exact (List.getElem?_eq_some_iff.1 h1).1
theorem KO_lt {ks : List X} {a i p q : Nat} (h : KO ks a i p q) : i < ks.length := by
 obtain ⟨x, h1, _⟩ := h
 exact (List.getElem?_eq_some_iff.1 h1).1

/-- first ones, last ones of a part, of what its kids have: what the document's loops come to -/
theorem fst_kids {x : X} (h1 : x.kind ≠ 1) (a p : Nat) : x.fst a p = true ↔ ∃ t, t < x.kids.length ∧ KF x.kids a t p ∧ (x.kind = 2 → Em x.kids 0 t) := by
 rw [X.fst_eq, if_neg h1]
 split
 ·rename_i h2
  rw [fstS_iff]
  exact ⟨fun ⟨i, h, h'⟩ => ⟨i, KF_lt h, h, fun _ => h'⟩, fun ⟨i, _, h, h'⟩ => ⟨i, h, h' h2⟩⟩
 ·rename_i h2
  rw [fstA_iff]
  exact ⟨fun ⟨i, h⟩ => ⟨i, KF_lt h, h, fun e => absurd e h2⟩, fun ⟨i, _, h, h'⟩ => ⟨i, h⟩⟩
theorem lst_kids {x : X} (h1 : x.kind ≠ 1) (a p : Nat) : x.lst a p = true ↔ ∃ t, t < x.kids.length ∧ KL x.kids a t p ∧ (x.kind = 2 → Em x.kids (t + 1) x.kids.length) := by
 rw [X.lst_eq, if_neg h1]
 split
 ·rename_i h2
  rw [lstS_iff]
  exact ⟨fun ⟨i, h, h'⟩ => ⟨i, KL_lt h, h, fun _ => h'⟩, fun ⟨i, _, h, h'⟩ => ⟨i, h, h' h2⟩⟩
 ·rename_i h2
  rw [lstA_iff]
  exact ⟨fun ⟨i, h⟩ => ⟨i, KL_lt h, h, fun e => absurd e h2⟩, fun ⟨i, _, h, h'⟩ => ⟨i, h⟩⟩
/-- what follows, ahead of the last link -/
def Lk (x : X) (a m p q : Nat) : Prop := (∃ t, KO x.kids a t p q) ∨ (x.kind = 2 ∧ ∃ t, t < m ∧ ∃ k, t < k ∧ KL x.kids a t p ∧ KF x.kids a k q ∧ Em x.kids (t + 1) k)
theorem fol_kids {x : X} (h1 : x.kind ≠ 1) (a p q : Nat) : x.fol a p q = true ↔ Lk x a x.kids.length p q ∨ ((x.kind = 4 ∨ x.kind = 5) ∧ x.lst a p = true ∧ x.fst a q = true) := by
 unfold Lk
 rw [X.fol_eq, if_neg h1]
 split
 ·rename_i h2
  rw [folS_iff]
  constructor
  ·rintro (h | ⟨i, k, h3, h4, h5⟩)
   ·exact .inl (.inl h)
   ·exact .inl (.inr ⟨h2, i, KL_lt h4, k, h3, h4, h5⟩)
  ·rintro ((h | ⟨_, i, _, k, h3, h4, h5⟩) | ⟨h, _⟩)
   ·exact .inl h
   ·exact .inr ⟨i, k, h3, h4, h5⟩
   ·omega
 ·rename_i h2
  rw [Bool.or_eq_true, folA_iff, Bool.and_eq_true, Bool.and_eq_true, decide_eq_true_eq]
  have e1 : x.fst a q = fstA x.kids a q := by rw [X.fst_eq, if_neg h1, if_neg h2]
  have e2 : x.lst a p = lstA x.kids a p := by rw [X.lst_eq, if_neg h1, if_neg h2]
  rw [e1, e2]
  constructor
  ·rintro (h | h)
   ·exact .inl (.inl h)
   ·exact .inr h
  ·rintro ((h | ⟨h, _⟩) | h)
   ·exact .inl h
   ·exact absurd h h2
   ·exact .inr h
theorem emp_takes {x : X} (hg : x.good) (hs : x.sz ≤ 24) : takesB x [] = x.emp := by
 have hr : x.right = true := by
  unfold X.right
  rw [Bool.and_eq_true, decide_eq_true_eq, List.all_eq_true]
  exact ⟨hs, hg⟩
 exact bool_ext (by rw [takesB_iff, emp_iff x hg]; exact ⟨fun h => h.2, fun h => ⟨hr, h⟩⟩)
end Go.Proofs.YtnccgaanfjaimaaDoor

namespace Go.Proofs.YtnccgaanfjaimaaDoor
open Go.ChangeShapes Go.WideShapes Go.ChangeAt Go.RowKit
set_option linter.unusedVariables false
set_option linter.unusedSimpArgs false

theorem Kr.setNew {B n : Nat} {r : Nat → Nat} {X Y : World} (h : Kr B r n X Y) (hB : B ≤ X.heap.size) {p : Addr} (hp : X.heap.size ≤ p.block) (v : Value) : Kr B r n X (Y.setCell p v) := by
 refine ⟨h.os, h.tape, h.output, by simpa using h.size, fun k hk => (Below.heap_setCell _ _ _ _ (by omega)).trans (h.low k hk), fun k v' t fr hk h1 h2 h3 => (Below.heap_setCell _ _ _ _ (fun e => ?_)).trans (h.cells k v' t fr hk h1 h2 h3)⟩
 have := (Array.getElem?_eq_some_iff.1 hk).1
 omega
theorem Kr.bel {B n : Nat} {r : Nat → Nat} {X Y Z : World} (h : Kr B r n X Y) (hB : B ≤ X.heap.size) (hb : Below Y.heap.size Y Z) : Kr B r n X Z := h.trans (Kr.of_below hb (Nat.le_trans hB h.size))
theorem Kr.grownNew {B n : Nat} {r : Nat → Nat} {X Y Z : World} (h : Kr B r n X Y) (hB : B ≤ X.heap.size) {ob : Option Nat} (hg : Y.grownBy Z ob) (ho : ∀ g, ob = some g → X.heap.size ≤ g) : Kr B r n X Z := by
 have hb : Below B Y Z := (Below.refl B Y).grown hg (Nat.le_trans hB h.size) (fun g e => Nat.le_trans hB (ho g e))
 refine ⟨hb.os.trans h.os, hb.tape.trans h.tape, hb.output.trans h.output, Nat.le_trans h.size hb.size, fun k hk => (hb.block k hk).trans (h.low k hk), fun k v' t fr hk h1 h2 h3 => ?_⟩
 have hlt := (Array.getElem?_eq_some_iff.1 hk).1
 rw [hg.block k (Nat.lt_of_lt_of_le hlt h.size) (fun e => by have := ho k e.symm; omega)]
 exact h.cells k v' t fr hk h1 h2 h3
/-- what lies at other kinds of blocks lies as it lay -/
theorem RN.other {B N k : Nat} {w : World} {K : RK} {vl : Value} {labs : List ByteArray} {P : Nat → Nat → Prop} (h : RN B w K vl labs P) {a : Array Value} {t : TypeId} {fr : Nat × Nat} (hN : w.heap[N]? = some (.cells a t fr)) (h1 : t ≠ 45) (h2 : t ≠ 9) (h3 : t ≠ 42) (h4 : t ≠ 4) (v : Value) : RN B (w.setCell ⟨N, k, none⟩ v) K vl labs P := by
 have ne : ∀ b (a' : Array Value) (t' : TypeId) (fr' : Nat × Nat), w.heap[b]? = some (.cells a' t' fr') → t ≠ t' → b ≠ N := fun b a' t' fr' hb ht e => by
  subst e
  rw [hN] at hb
  injection hb with hb
  injection hb with _ hb _
  exact ht hb
 refine ⟨h.hB, (Below.heap_setCell _ _ _ _ (ne _ _ _ _ h.blk h1)).trans h.blk, ownsRow_setCell_other h.lab (a := ⟨N, k, none⟩) (row_ne h.lab hN h2) _, ?_⟩
 refine ⟨h.nx.hb, ?_, fun i hi => ?_, h.nx.inj⟩
 ·obtain ⟨cur, e1, e2⟩ := h.nx.outer
  exact ⟨cur, (Below.heap_setCell _ _ _ _ (ne _ _ _ _ e1 h3)).trans e1, e2⟩
 ·obtain ⟨hB, row, e1, e2⟩ := h.nx.row i hi
  exact ⟨hB, row, (Below.heap_setCell _ _ _ _ (ne _ _ _ _ e1 h4)).trans e1, e2⟩
theorem RN.grown {B base m : Nat} {w w' : World} {K : RK} {vl v : Value} {xs : List Value} {labs : List ByteArray} {P : Nat → Nat → Prop} (h : RN B w K vl labs P) (hg : w.grownBy w' v.ownBlock) (ho : w.ownsRow base 79 3 v m xs) : RN B w' K vl labs P := by
 have hty : ∀ g, v.ownBlock = some g → ∃ cur, w.heap[g]? = some (.cells cur 79 (0, 0)) := fun g e => by
  rcases ho.2 with ⟨rfl, _⟩ | ⟨g', cap, cur, rfl, _, hgg, _⟩
  ·cases e
  ·obtain rfl : g' = g := by simpa [Value.ownBlock] using e
   exact ⟨cur, hgg⟩
 have ne : ∀ b (a' : Array Value) (t' : TypeId) (fr' : Nat × Nat), w.heap[b]? = some (Obj.cells a' t' fr') → (79 : TypeId) ≠ t' → w'.heap[b]? = some (Obj.cells a' t' fr') := fun b a' t' fr' hb ht => by
  rw [hg.block b (Array.getElem?_eq_some_iff.1 hb).1 (fun e => ?_)]
  ·exact hb
  ·obtain ⟨cur, hc⟩ := hty b e.symm
   rw [hc] at hb
   injection hb with hb
   injection hb with _ hb _
   exact ht hb
 refine ⟨h.hB, ne _ _ _ _ h.blk (by decide), ⟨h.lab.1, ?_⟩, ⟨h.nx.hb, ?_, fun i hi => ?_, h.nx.inj⟩⟩
 ·rcases h.lab.2 with hn | ⟨g, cap, cur, e1, hbg, hgg, rest⟩
  ·exact .inl hn
  ·exact .inr ⟨g, cap, cur, e1, hbg, ne _ _ _ _ hgg (by decide), rest⟩
 ·obtain ⟨cur, e1, e2⟩ := h.nx.outer
  exact ⟨cur, ne _ _ _ _ e1 (by decide), e2⟩
 ·obtain ⟨hB, row, e1, e2⟩ := h.nx.row i hi
  exact ⟨hB, row, ne _ _ _ _ e1 (by decide), e2⟩
theorem FRat.other {B N k : Nat} {w : World} {g n : Nat} {P : Nat → Prop} (h : FRat B w g n P) {a : Array Value} {t : TypeId} {fr : Nat × Nat} (hN : w.heap[N]? = some (.cells a t fr)) (h4 : t ≠ 4) (v : Value) : FRat B (w.setCell ⟨N, k, none⟩ v) g n P :=
 h.same (Below.heap_setCell _ _ _ _ (fun e => by
  obtain ⟨row, h1, _⟩ := h.row
  subst e
  rw [hN] at h1
  injection h1 with h1
  injection h1 with _ h1 _
  exact h4 h1))
theorem FRat.grown {B base m : Nat} {w w' : World} {v : Value} {xs : List Value} {g n : Nat} {P : Nat → Prop} (h : FRat B w g n P) (hg : w.grownBy w' v.ownBlock) (ho : w.ownsRow base 79 3 v m xs) : FRat B w' g n P :=
 h.same (hg.block g h.lt (fun e => by
  obtain ⟨row, h1, _⟩ := h.row
  rcases ho.2 with ⟨rfl, _⟩ | ⟨g', cap, cur, rfl, _, hgg, _⟩
  ·cases e
  ·obtain rfl : g = g' := by simpa [Value.ownBlock] using e
   rw [hgg] at h1
   injection h1 with h1
   injection h1 with _ h1 _
   cases h1))
theorem own_kr {B n base m : Nat} {r : Nat → Nat} {X Y : World} {v : Value} {xs : List Value} (h : X.ownsRow base 79 3 v m xs) (hk : Kr B r n X Y) : Y.ownsRow base 79 3 v m xs := by
 refine ⟨h.1, ?_⟩
 rcases h.2 with hn | ⟨g, cap, cur, e1, hbg, hg, rest⟩
 ·exact .inl hn
 ·exact .inr ⟨g, cap, cur, e1, hbg, hk.boxed hg (by decide) (by decide) (by decide), rest⟩
/-- the row of the square is none that is new -/
theorem FRat.ne {B : Nat} {w w0 : World} {K : RK} {vl : Value} {labs : List ByteArray} {P : Nat → Nat → Prop} {g m : Nat} {Q : Nat → Prop} (h : FRat w0.heap.size w g m Q) (h0 : RN B w0 K vl labs P) : ∀ i, i ≤ K.n → g ≠ K.r i := fun i hi e => by
 have := h.hb
 have := h0.nx.row_lt hi
 omega

/-- the kids' parts, a row of three cells each -/
def flK (n : Nat) (l : List (Nat × Nat × Bool)) : List Value := l.flatMap fun q => [.slice (some ⟨q.1, 0, none⟩) (n + 1) (n + 1), .slice (some ⟨q.2.1, 0, none⟩) (n + 1) (n + 1), .bool q.2.2]
theorem flK_app (n : Nat) (l : List (Nat × Nat × Bool)) (q : Nat × Nat × Bool) : flK n (l ++ [q]) = flK n l ++ [.slice (some ⟨q.1, 0, none⟩) (n + 1) (n + 1), .slice (some ⟨q.2.1, 0, none⟩) (n + 1) (n + 1), .bool q.2.2] := by simp [flK]
theorem flK_len (n : Nat) (l : List (Nat × Nat × Bool)) : (flK n l).length = l.length * 3 := by
 induction l with
 | nil => rfl
 | cons q l ih =>
  have : flK n (q :: l) = [.slice (some ⟨q.1, 0, none⟩) (n + 1) (n + 1), .slice (some ⟨q.2.1, 0, none⟩) (n + 1) (n + 1), .bool q.2.2] ++ flK n l := by simp [flK]
  rw [this, List.length_append, ih]
  simp
  omega
theorem flK_at (n : Nat) : ∀ (l : List (Nat × Nat × Bool)) (t : Nat) (h : t < l.length), (flK n l)[t * 3]? = some (.slice (some ⟨l[t].1, 0, none⟩) (n + 1) (n + 1)) ∧ (flK n l)[t * 3 + 1]? = some (.slice (some ⟨l[t].2.1, 0, none⟩) (n + 1) (n + 1)) ∧ (flK n l)[t * 3 + 2]? = some (.bool l[t].2.2)
 | q :: l, 0, h => by simp [flK]
 | q :: l, t + 1, h => by
  have e : flK n (q :: l) = .slice (some ⟨q.1, 0, none⟩) (n + 1) (n + 1) :: .slice (some ⟨q.2.1, 0, none⟩) (n + 1) (n + 1) :: .bool q.2.2 :: flK n l := by simp [flK]
  rw [e, show (t + 1) * 3 = t * 3 + 1 + 1 + 1 by omega]
  simp only [List.getElem?_cons_succ, show t * 3 + 1 + 1 + 1 + 1 = (t * 3 + 1) + 1 + 1 + 1 by omega, show t * 3 + 1 + 1 + 1 + 2 = (t * 3 + 2) + 1 + 1 + 1 by omega, List.getElem_cons_succ]
  exact flK_at n l t (by simpa using h)
/-- the flags of the kids that are done -/
structure KG (b : Nat) (W : World) (n : Nat) (ks : List X) (a : Nat) (l : List (Nat × Nat × Bool)) : Prop where
 f : ∀ t (h : t < l.length), FRat b W l[t].1 n (fun j => KF ks a t (j + 1))
 g : ∀ t (h : t < l.length), FRat b W l[t].2.1 n (fun j => KL ks a t (j + 1))
 e : ∀ t (h : t < l.length) x, ks[t]? = some x → l[t].2.2 = x.emp
theorem KG.map {b : Nat} {W W' : World} {n : Nat} {ks : List X} {a : Nat} {l : List (Nat × Nat × Bool)} (h : KG b W n ks a l) (hm : ∀ g P, FRat b W g n P → FRat b W' g n P) : KG b W' n ks a l :=
 ⟨fun t ht => hm _ _ (h.f t ht), fun t ht => hm _ _ (h.g t ht), h.e⟩
theorem KG.more {b : Nat} {W : World} {n : Nat} {ks : List X} {a : Nat} {l : List (Nat × Nat × Bool)} (h : KG b W n ks a l) {x : X} (hx : ks[l.length]? = some x) {g1 g2 : Nat}
  (h1 : FRat b W g1 n (fun j => x.fst (a + pnL (ks.take l.length)) (j + 1) = true)) (h2 : FRat b W g2 n (fun j => x.lst (a + pnL (ks.take l.length)) (j + 1) = true)) : KG b W n ks a (l ++ [(g1, g2, x.emp)]) := by
 have hlast : ∀ t (ht : t < (l ++ [(g1, g2, x.emp)]).length), ¬ t < l.length → t = l.length := fun t ht hn => by simp at ht; omega
 refine ⟨fun t ht => ?_, fun t ht => ?_, fun t ht y hy => ?_⟩
 ·by_cases e : t < l.length
  ·rw [List.getElem_append_left e]; exact h.f t e
  ·obtain rfl := hlast t ht e
   rw [List.getElem_append_right (Nat.le_refl _)]
   simp only [Nat.sub_self, List.getElem_cons_zero]
   exact h1.ext (fun j _ => by unfold KF; rw [hx]; simp)
 ·by_cases e : t < l.length
  ·rw [List.getElem_append_left e]; exact h.g t e
  ·obtain rfl := hlast t ht e
   rw [List.getElem_append_right (Nat.le_refl _)]
   simp only [Nat.sub_self, List.getElem_cons_zero]
   exact h2.ext (fun j _ => by unfold KL; rw [hx]; simp)
 ·by_cases e : t < l.length
  ·rw [List.getElem_append_left e]; exact h.e t e y hy
  ·obtain rfl := hlast t ht e
   rw [List.getElem_append_right (Nat.le_refl _)]
   rw [hx] at hy
   injection hy with hy
   simp only [Nat.sub_self, List.getElem_cons_zero]
   rw [hy]
end Go.Proofs.YtnccgaanfjaimaaDoor

namespace Go.Proofs.YtnccgaanfjaimaaDoor
open Go.ChangeShapes Go.WideShapes Go.ChangeAt Go.RowKit
set_option linter.unusedVariables false
set_option linter.unusedSimpArgs false

attribute [local go_sem] Oper.semAt_some

/-- what a part's positions come to -/
def OfR (B : Nat) (w : World) (K : RK) (labs : List ByteArray) (P : Nat → Nat → Prop) (x : X) (e : Ending) (w' : World) : Prop :=
 ∃ vl' g1 g2, e = .returned (.agg #[.slice (some ⟨g1, 0, none⟩) (K.n + 1) (K.n + 1), .slice (some ⟨g2, 0, none⟩) (K.n + 1) (K.n + 1), .bool x.emp]) ∧ RN B w' K vl' (labs ++ x.ps) (fun i j => P i j ∨ x.fol (labs.length + 1) (i + 1) (j + 1) = true) ∧
  FRat w.heap.size w' g1 K.n (fun j => x.fst (labs.length + 1) (j + 1) = true) ∧ FRat w.heap.size w' g2 K.n (fun j => x.lst (labs.length + 1) (j + 1) = true) ∧ Kr B K.r K.n w w'
/-- what is a part's own, as its walk begins -/
structure D2 (B : Nat) (w W : World) (K : RK) (x : X) (n c : Nat) (A : Option Addr) (vl : Value) (labs : List ByteArray) (P : Nat → Nat → Prop) (g1 g2 g6 : Nat) : Prop where
 b : Below w.heap.size w W
 bx : W.heap[w.heap.size]? = some (.cells #[.int .i64 x.kind, .string x.lab, .slice A n c] 25 (0, 0))
 rb : W.heap[w.heap.size + 1]? = some (.cells #[.slice none 0 0, .slice none 0 0, .bool false] 79 (0, 0))
 rn : RN B W K vl labs P
 p6 : W.heap[g6]? = some (.cells #[.slice (some ⟨g1, 0, none⟩) (K.n + 1) (K.n + 1), .slice (some ⟨g2, 0, none⟩) (K.n + 1) (K.n + 1), .bool x.emp] 79 (0, 0))
 l6 : w.heap.size + 1 < g6
 f1 : FRat w.heap.size W g1 K.n (fun _ => False)
 f2 : FRat w.heap.size W g2 K.n (fun _ => False)
 ne : g1 ≠ g2
def set3' (u : World) (E : Nat) (a0 a1 a2 : Value) : World := ((u.setCell ⟨E, 0, none⟩ a0).setCell ⟨E, 1, none⟩ a1).setCell ⟨E, 2, none⟩ a2
theorem set3'_other (u : World) {E b : Nat} (a0 a1 a2 : Value) (h : b ≠ E) : (set3' u E a0 a1 a2).heap[b]? = u.heap[b]? := by
 unfold set3'
 rw [Below.heap_setCell _ _ _ _ h, Below.heap_setCell _ _ _ _ h, Below.heap_setCell _ _ _ _ h]
theorem set3'_self (u : World) {E : Nat} {b0 b1 b2 : Value} {t : TypeId} (a0 a1 a2 : Value) (h : u.heap[E]? = some (.cells #[b0, b1, b2] t (0, 0))) : (set3' u E a0 a1 a2).heap[E]? = some (.cells #[a0, a1, a2] t (0, 0)) := by
 unfold set3' World.setCell
 simp [Array.getElem?_modify, h]
theorem set3'_below {B : Nat} {w u : World} {E : Nat} (h : Below B w u) (hE : B ≤ E) (a0 a1 a2 : Value) : Below B w (set3' u E a0 a1 a2) :=
 ((h.setCell (p := ⟨E, 0, none⟩) hE a0).setCell (p := ⟨E, 1, none⟩) hE a1).setCell (p := ⟨E, 2, none⟩) hE a2
theorem set3'_size (u : World) (E : Nat) (a0 a1 a2 : Value) : (set3' u E a0 a1 a2).heap.size = u.heap.size := by simp [set3', World.setCell]
theorem three_cells {W : World} {g : Nat} {a0 a1 a2 : Value} {t : TypeId} (h : W.heap[g]? = some (.cells #[a0, a1, a2] t (0, 0))) :
  (W.cell? ⟨g, 0, none⟩ = some a0 ∧ W.cell? ⟨g, 1, none⟩ = some a1 ∧ W.cell? ⟨g, 2, none⟩ = some a2) ∧ W.frozen? ⟨g, 0, none⟩ = false ∧ W.frozen? ⟨g, 1, none⟩ = false ∧ W.frozen? ⟨g, 2, none⟩ = false :=
 ⟨⟨cell_of_row _ _ 0 _ t (0, 0) h, cell_of_row _ _ 1 _ t (0, 0) h, cell_of_row _ _ 2 _ t (0, 0) h⟩, by simp [World.frozen?, h], by simp [World.frozen?, h], by simp [World.frozen?, h]⟩

structure D4 (b : Nat) (W0 u : World) (n : Nat) (o1 o2 o6 : Option Nat) : Prop where
 bel : Below W0.heap.size W0 u
 f1 : ∀ g, o1 = some g → FRat b u g n (fun _ => False)
 f2 : ∀ g, o2 = some g → FRat b u g n (fun _ => False)
 z6 : ∀ g, o6 = some g → W0.heap.size ≤ g ∧ u.heap[g]? = some (.cells #[.slice none 0 0, .slice none 0 0, .bool false] 79 (0, 0))
 ne : ∀ g g', o1 = some g → o2 = some g' → g ≠ g'
theorem D4.step {b : Nat} {W0 u u' : World} {n : Nat} {o1 o2 o6 : Option Nat} (h : D4 b W0 u n o1 o2 o6) (hb : Below u.heap.size u u') : D4 b W0 u' n o1 o2 o6 :=
 ⟨h.bel.trans (hb.mono h.bel.size), fun g e => (h.f1 g e).bel hb, fun g e => (h.f2 g e).bel hb, fun g e => ⟨(h.z6 g e).1, (hb.block _ (Array.getElem?_eq_some_iff.1 (h.z6 g e).2).1).trans (h.z6 g e).2⟩, h.ne⟩
theorem D4.a1 {b : Nat} {W0 u : World} {n : Nat} {o2 o6 : Option Nat} (h : D4 b W0 u n none o2 o6) (hb : b ≤ W0.heap.size) {M : Array Value} (hM : M.size = n + 1 ∧ ∀ j, j ≤ n → M[j]? = some (.bool false)) : D4 b W0 (u.alloc (.cells M 4)) n (some u.heap.size) o2 o6 := by
 have h1 := h.step ((Below.refl _ u).alloc (Nat.le_refl _) (.cells M 4))
 refine ⟨h1.bel, fun g e => ?_, h1.f2, h1.z6, fun g g' e e' => ?_⟩
 ·obtain rfl : u.heap.size = g := by simpa using e
  exact (FRat.made u hM).mono (Nat.le_trans hb h.bel.size)
 ·obtain rfl : u.heap.size = g := by simpa using e
  have := (h.f2 g' e').lt
  omega
theorem D4.a2 {b : Nat} {W0 u : World} {n : Nat} {o1 o6 : Option Nat} (h : D4 b W0 u n o1 none o6) (hb : b ≤ W0.heap.size) {M : Array Value} (hM : M.size = n + 1 ∧ ∀ j, j ≤ n → M[j]? = some (.bool false)) : D4 b W0 (u.alloc (.cells M 4)) n o1 (some u.heap.size) o6 := by
 have h1 := h.step ((Below.refl _ u).alloc (Nat.le_refl _) (.cells M 4))
 refine ⟨h1.bel, h1.f1, fun g e => ?_, h1.z6, fun g g' e e' => ?_⟩
 ·obtain rfl : u.heap.size = g := by simpa using e
  exact (FRat.made u hM).mono (Nat.le_trans hb h.bel.size)
 ·obtain rfl : u.heap.size = g' := by simpa using e'
  have := (h.f1 g e).lt
  omega
theorem D4.a6 {b : Nat} {W0 u : World} {n : Nat} {o1 o2 : Option Nat} (h : D4 b W0 u n o1 o2 none) : D4 b W0 (u.alloc (.cells #[.slice none 0 0, .slice none 0 0, .bool false] 79)) n o1 o2 (some u.heap.size) := by
 have h1 := h.step ((Below.refl _ u).alloc (Nat.le_refl _) (.cells #[.slice none 0 0, .slice none 0 0, .bool false] 79))
 refine ⟨h1.bel, h1.f1, h1.f2, fun g e => ?_, h1.ne⟩
 obtain rfl : u.heap.size = g := by simpa using e
 exact ⟨h.bel.size, at_push u _⟩
theorem D4.fin {B : Nat} {w W0 u : World} {K : RK} {x : X} {n c : Nat} {A : Option Addr} {vl : Value} {labs : List ByteArray} {P : Nat → Nat → Prop} {g1 g2 g6 : Nat} (h : D4 w.heap.size W0 u K.n (some g1) (some g2) (some g6)) (hb : Below w.heap.size w W0) (hz : W0.heap.size = w.heap.size + 2)
  (hbx : W0.heap[w.heap.size]? = some (.cells #[.int .i64 x.kind, .string x.lab, .slice A n c] 25 (0, 0))) (hrb : W0.heap[w.heap.size + 1]? = some (.cells #[.slice none 0 0, .slice none 0 0, .bool false] 79 (0, 0))) (hrn : RN B W0 K vl labs P) :
  D2 B w (set3' u g6 (.slice (some ⟨g1, 0, none⟩) (K.n + 1) (K.n + 1)) (.slice (some ⟨g2, 0, none⟩) (K.n + 1) (K.n + 1)) (.bool x.emp)) K x n c A vl labs P g1 g2 g6 := by
 obtain ⟨e1, e2⟩ := h.z6 _ rfl
 have h3 : Below W0.heap.size W0 (set3' u g6 (.slice (some ⟨g1, 0, none⟩) (K.n + 1) (K.n + 1)) (.slice (some ⟨g2, 0, none⟩) (K.n + 1) (K.n + 1)) (.bool x.emp)) := set3'_below h.bel e1 _ _ _
 have hne : ∀ g, FRat w.heap.size u g K.n (fun _ => False) → g ≠ g6 := fun g hg e => by
  obtain ⟨row, h1, _⟩ := hg.row
  rw [e, e2] at h1
  injection h1 with h1
  injection h1 with _ h1 _
  cases h1
 exact ⟨hb.trans (h3.mono hb.size), (h3.block _ (by omega)).trans hbx, (h3.block _ (by omega)).trans hrb, hrn.bel h3, set3'_self _ _ _ _ e2, by omega,
  (h.f1 _ rfl).same (set3'_other _ _ _ _ (hne _ (h.f1 _ rfl))), (h.f2 _ rfl).same (set3'_other _ _ _ _ (hne _ (h.f2 _ rfl))), h.ne _ _ rfl rfl⟩

theorem MtAt.still {B : Nat} {w w' : World} {g : Nat} {r : Nat → Nat} {n : Nat} {f : Nat → Nat → Bool} (h : MtAt B w g r n f) (hs : ∀ (b : Nat) (a : Array Value) (t : TypeId), t = 42 ∨ t = 4 → w.heap[b]? = some (.cells a t (0, 0)) → w'.heap[b]? = some (.cells a t (0, 0))) : MtAt B w' g r n f := by
 refine ⟨h.hb, ?_, fun i hi => ?_, h.inj⟩
 ·obtain ⟨cur, e1, e2⟩ := h.outer
  exact ⟨cur, hs _ _ _ (.inl rfl) e1, e2⟩
 ·obtain ⟨hB, row, e1, e2⟩ := h.row i hi
  exact ⟨hB, row, hs _ _ _ (.inr rfl) e1, e2⟩
theorem ne_type {w : World} {b N : Nat} {a a' : Array Value} {t t' : TypeId} {fr fr' : Nat × Nat} (h : w.heap[b]? = some (.cells a t fr)) (h' : w.heap[N]? = some (.cells a' t' fr')) (ht : t ≠ t') : b ≠ N := fun e => by
 subst e
 rw [h] at h'
 injection h' with h'
 injection h' with _ h' _
 exact ht h'
theorem RN.appended {W w11 : World} {B : Nat} {K : RK} {vl v' : Value} {labs : List ByteArray} {P : Nat → Nat → Prop} {l : ByteArray} (h : RN B W K vl labs P) (hB : B ≤ W.heap.size) (hown' : w11.ownsRow B 9 1 v' (labs.length + 1) (labs.map Value.string ++ [.string l])) (hg : W.grownBy w11 vl.ownBlock) :
  w11.cell? ⟨K.R, 0, none⟩ = some vl ∧ w11.frozen? ⟨K.R, 0, none⟩ = false ∧ RN B (w11.setCell ⟨K.R, 0, none⟩ v') K v' (labs ++ [l]) P ∧ Kr B K.r K.n W (w11.setCell ⟨K.R, 0, none⟩ v') := by
 have hbk : ∀ (b : Nat) (a : Array Value) (t : TypeId), t ≠ 9 → W.heap[b]? = some (.cells a t (0, 0)) → w11.heap[b]? = some (.cells a t (0, 0)) := fun b a t ht hb =>
  (hg.block b (Array.getElem?_eq_some_iff.1 hb).1 fun e => row_ne h.lab hb ht e.symm).trans hb
 have hb := hbk _ _ _ (by decide) h.blk
 refine ⟨?_, by simp [World.frozen?, hb], ⟨h.hB, ?_, ?_, ?_⟩, ?_⟩
 ·rw [cell_of_row _ _ _ _ _ _ hb, List.getElem?_toArray]; rfl
 ·rw [heap_set hb]; rfl
 ·simp only [List.length_append, List.length_singleton, List.map_append, List.map_cons, List.map_nil]
  exact ownsRow_setCell_other hown' (a := ⟨K.R, 0, none⟩) (row_ne hown' hb (by decide)) v'
 ·refine (h.nx.still (w' := w11) fun b a t ht hb' => hbk _ _ _ (by rcases ht with rfl | rfl <;> decide) hb').still fun b a t ht hb' => ?_
  exact (Below.heap_setCell _ _ _ _ (ne_type hb' hb (by rcases ht with rfl | rfl <;> decide))).trans hb'
 ·exact (Kr.grownL hg h.lab hB).trans (Kr.set hb (.inl rfl) h.hB _)
/-- a part's own, on the way -/
structure D3 (B : Nat) (w W : World) (K : RK) (x : X) (n c : Nat) (A : Option Addr) (vl : Value) (labs : List ByteArray) (P : Nat → Nat → Prop) (g1 g2 g6 : Nat) (Q1 Q2 : Nat → Prop) : Prop where
 bx : W.heap[w.heap.size]? = some (.cells #[.int .i64 x.kind, .string x.lab, .slice A n c] 25 (0, 0))
 rb : W.heap[w.heap.size + 1]? = some (.cells #[.slice none 0 0, .slice none 0 0, .bool false] 79 (0, 0))
 rn : RN B W K vl labs P
 p6 : W.heap[g6]? = some (.cells #[.slice (some ⟨g1, 0, none⟩) (K.n + 1) (K.n + 1), .slice (some ⟨g2, 0, none⟩) (K.n + 1) (K.n + 1), .bool x.emp] 79 (0, 0))
 f1 : FRat w.heap.size W g1 K.n Q1
 f2 : FRat w.heap.size W g2 K.n Q2
 kr : Kr B K.r K.n w W
theorem D2.d3 {B : Nat} {w W : World} {K : RK} {x : X} {n c : Nat} {A : Option Addr} {vl : Value} {labs : List ByteArray} {P : Nat → Nat → Prop} {g1 g2 g6 : Nat} (h : D2 B w W K x n c A vl labs P g1 g2 g6) (hB : B ≤ w.heap.size) : D3 B w W K x n c A vl labs P g1 g2 g6 (fun _ => False) (fun _ => False) :=
 ⟨h.bx, h.rb, h.rn, h.p6, h.f1, h.f2, Kr.of_below h.b hB⟩
theorem D3.kr_to {B : Nat} {w W W' : World} {K : RK} {x : X} {n c : Nat} {A : Option Addr} {vl vl' vl0 : Value} {labs labs' labs0 : List ByteArray} {P P' P0 : Nat → Nat → Prop} {g1 g2 g6 : Nat} {Q1 Q2 : Nat → Prop} (h : D3 B w W K x n c A vl labs P g1 g2 g6 Q1 Q2) (h0 : RN B w K vl0 labs0 P0) (hk : Kr B K.r K.n W W') (hr : RN B W' K vl' labs' P') : D3 B w W' K x n c A vl' labs' P' g1 g2 g6 Q1 Q2 :=
 ⟨hk.boxed h.bx (by decide) (by decide) (by decide), hk.boxed h.rb (by decide) (by decide) (by decide), hr, hk.boxed h.p6 (by decide) (by decide) (by decide), h.f1.kr hk (h.f1.ne h0), h.f2.kr hk (h.f2.ne h0), h.kr.trans hk⟩
/-- a flag of its own is set -/
theorem D3.set1 {B : Nat} {w W : World} {K : RK} {x : X} {n c : Nat} {A : Option Addr} {vl : Value} {labs : List ByteArray} {P : Nat → Nat → Prop} {g1 g2 g6 : Nat} {Q1 Q2 Q : Nat → Prop} (h : D3 B w W K x n c A vl labs P g1 g2 g6 Q1 Q2) (h0 : ∀ i, i ≤ K.n → g1 ≠ K.r i) (hne : g2 ≠ g1) (hBw : B ≤ w.heap.size) {j : Nat} (hj : j ≤ K.n) (hq : Q j) (hr : ∀ j', j' ≤ K.n → j' ≠ j → (Q1 j' ↔ Q j')) : D3 B w (W.setCell ⟨g1, j, none⟩ (.bool true)) K x n c A vl labs P g1 g2 g6 Q Q2 := by
 obtain ⟨row, e1, _⟩ := h.f1.row
 have hs : ∀ (b : Nat) (a : Array Value) (t : TypeId), t ≠ 4 → W.heap[b]? = some (.cells a t (0, 0)) → (W.setCell ⟨g1, j, none⟩ (.bool true)).heap[b]? = some (.cells a t (0, 0)) := fun b a t ht hb => (Below.heap_setCell _ _ _ _ (ne_type hb e1 ht)).trans hb
 refine ⟨hs _ _ _ (by decide) h.bx, hs _ _ _ (by decide) h.rb, ⟨h.rn.hB, hs _ _ _ (by decide) h.rn.blk, ownsRow_setCell_other h.rn.lab (a := ⟨g1, j, none⟩) (row_ne h.rn.lab e1 (by decide)) _, ?_⟩, hs _ _ _ (by decide) h.p6, h.f1.set hj true ⟨fun _ => hq, fun _ => rfl⟩ hr, h.f2.same (Below.heap_setCell _ _ _ _ hne), ?_⟩
 ·refine ⟨h.rn.nx.hb, ?_, fun i hi => ?_, h.rn.nx.inj⟩
  ·obtain ⟨cur, e1, e2⟩ := h.rn.nx.outer
   exact ⟨cur, hs _ _ _ (by decide) e1, e2⟩
  ·obtain ⟨hB, row, e1, e2⟩ := h.rn.nx.row i hi
   exact ⟨hB, row, (Below.heap_setCell _ _ _ _ (fun e => h0 i hi e.symm)).trans e1, e2⟩
 ·exact h.kr.setNew hBw h.f1.hb _
theorem D3.set2 {B : Nat} {w W : World} {K : RK} {x : X} {n c : Nat} {A : Option Addr} {vl : Value} {labs : List ByteArray} {P : Nat → Nat → Prop} {g1 g2 g6 : Nat} {Q1 Q2 Q : Nat → Prop} (h : D3 B w W K x n c A vl labs P g1 g2 g6 Q1 Q2) (h0 : ∀ i, i ≤ K.n → g2 ≠ K.r i) (hne : g1 ≠ g2) (hBw : B ≤ w.heap.size) {j : Nat} (hj : j ≤ K.n) (hq : Q j) (hr : ∀ j', j' ≤ K.n → j' ≠ j → (Q2 j' ↔ Q j')) : D3 B w (W.setCell ⟨g2, j, none⟩ (.bool true)) K x n c A vl labs P g1 g2 g6 Q1 Q := by
 obtain ⟨row, e1, _⟩ := h.f2.row
 have hs : ∀ (b : Nat) (a : Array Value) (t : TypeId), t ≠ 4 → W.heap[b]? = some (.cells a t (0, 0)) → (W.setCell ⟨g2, j, none⟩ (.bool true)).heap[b]? = some (.cells a t (0, 0)) := fun b a t ht hb => (Below.heap_setCell _ _ _ _ (ne_type hb e1 ht)).trans hb
 refine ⟨hs _ _ _ (by decide) h.bx, hs _ _ _ (by decide) h.rb, ⟨h.rn.hB, hs _ _ _ (by decide) h.rn.blk, ownsRow_setCell_other h.rn.lab (a := ⟨g2, j, none⟩) (row_ne h.rn.lab e1 (by decide)) _, ?_⟩, hs _ _ _ (by decide) h.p6, h.f1.same (Below.heap_setCell _ _ _ _ hne), h.f2.set hj true ⟨fun _ => hq, fun _ => rfl⟩ hr, ?_⟩
 ·refine ⟨h.rn.nx.hb, ?_, fun i hi => ?_, h.rn.nx.inj⟩
  ·obtain ⟨cur, e1, e2⟩ := h.rn.nx.outer
   exact ⟨cur, hs _ _ _ (by decide) e1, e2⟩
  ·obtain ⟨hB, row, e1, e2⟩ := h.rn.nx.row i hi
   exact ⟨hB, row, (Below.heap_setCell _ _ _ _ (fun e => h0 i hi e.symm)).trans e1, e2⟩
 ·exact h.kr.setNew hBw h.f2.hb _

theorem D3.fin {B : Nat} {w W : World} {K : RK} {x : X} {n c : Nat} {A : Option Addr} {vl : Value} {labs : List ByteArray} {P : Nat → Nat → Prop} {g1 g2 g6 : Nat} {Q1 Q2 : Nat → Prop} (h : D3 B w W K x n c A vl labs P g1 g2 g6 Q1 Q2) (hB : B ≤ w.heap.size) (v0 v1 v2 : Value) :
  RN B (set3' W (w.heap.size + 1) v0 v1 v2) K vl labs P ∧ FRat w.heap.size (set3' W (w.heap.size + 1) v0 v1 v2) g1 K.n Q1 ∧ FRat w.heap.size (set3' W (w.heap.size + 1) v0 v1 v2) g2 K.n Q2 ∧ Kr B K.r K.n w (set3' W (w.heap.size + 1) v0 v1 v2) ∧ (set3' W (w.heap.size + 1) v0 v1 v2).heap[w.heap.size + 1]? = some (.cells #[v0, v1, v2] 79 (0, 0)) := by
 have hne : ∀ g Q, FRat w.heap.size W g K.n Q → g ≠ w.heap.size + 1 := fun g Q hg => by
  obtain ⟨row, h1, _⟩ := hg.row
  exact ne_type h1 h.rb (by decide)
 refine ⟨?_, h.f1.same (set3'_other _ _ _ _ (hne _ _ h.f1)), h.f2.same (set3'_other _ _ _ _ (hne _ _ h.f2)), ?_, set3'_self _ _ _ _ h.rb⟩
 ·have h1 := h.rn.other (k := 0) h.rb (by decide) (by decide) (by decide) (by decide) v0
  have h2 := h1.other (k := 1) (heap_set (l := [_, _, _]) h.rb v0) (by decide) (by decide) (by decide) (by decide) v1
  exact h2.other (k := 2) (heap_set (heap_set (l := [_, _, _]) h.rb v0) v1) (by decide) (by decide) (by decide) (by decide) v2
 ·exact ((h.kr.setNew hB (by show w.heap.size ≤ w.heap.size + 1; omega) v0).setNew hB (by show w.heap.size ≤ w.heap.size + 1; omega) v1).setNew hB (by show w.heap.size ≤ w.heap.size + 1; omega) v2
theorem D3.drew {B : Nat} {w W : World} {K : RK} {x : X} {n c : Nat} {A : Option Addr} {vl : Value} {labs : List ByteArray} {P : Nat → Nat → Prop} {g1 g2 g6 : Nat} {Q1 Q2 : Nat → Prop} (h : D3 B w W K x n c A vl labs P g1 g2 g6 Q1 Q2) (hB : B ≤ w.heap.size) : D3 B w W.drew K x n c A vl labs P g1 g2 g6 Q1 Q2 :=
 ⟨h.bx, h.rb, h.rn.bel (Below.refl _ _).drew, h.p6, h.f1.bel (Below.refl _ _).drew, h.f2.bel (Below.refl _ _).drew, h.kr.bel hB (Below.refl _ _).drew⟩
end Go.Proofs.YtnccgaanfjaimaaDoor
