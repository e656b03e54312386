/- The reference: from which place of a word to which one is what lies between taken. -/
import Derived.Test.YtnohnkhhkeikoaaRF
import Derived.Test.YtnohnkhhkeikoaaRA
namespace Go.Proofs.Ytnohnkhhkeikoaa
open Go.ChangeShapes Go.WideShapes Go.ChangeAt Go.RowKit
set_option linter.unusedVariables false
set_option linter.unusedSimpArgs false

attribute [local go_sem] Oper.semAt_some

def wdF (word : Wd) : Nat → ByteArray := fun k => (word[k]?).getD ⟨#[]⟩
theorem wdF_get {word : Wd} {k : Nat} (h : k < word.length) : wdF word k = word[k] := by unfold wdF; rw [List.getElem?_eq_getElem h]; rfl
theorem text_same {a b : ByteArray} : (a.toList == b.toList) = true ↔ a = b := by
  constructor
  · intro h
    have h1 : a.toList = b.toList := by simpa using h
    have h2 : a.data.toList = b.data.toList := by rw [← ByteArray.toList_eq, ← ByteArray.toList_eq]; exact h1
    exact ByteArray.ext (Array.toList_inj.1 h2)
  · intro h; subst h; simp
def S43 (word : Wd) (n : Nat) (x : X) : Prop := ∀ (N M : Nat) (w : World) (v wv : Value), XV N w v x → SR M w wv word → N ≤ w.heap.size → M ≤ w.heap.size →
  Calls Try.prog 43 #[v, wv] w fun e w' => ∃ v', e = .returned v' ∧ Mt 0 w' v' n (pF (Bt (wdF word) x.L)) ∧ Below w.heap.size w w'
theorem XR.at0 {B : Nat} {w : World} {A : Option Addr} {n c : Nat} {a : X} (h : XR B w (.slice A n c) [a]) :
    ∃ ad kv, A = some ad ∧ ad.block < B ∧ w.cell? ad = some (.int .i64 a.kind) ∧ w.cell? ⟨ad.block, ad.off + 1, none⟩ = some (.string a.lab) ∧ w.cell? ⟨ad.block, ad.off + 2, none⟩ = some kv ∧ XR B w kv a.kids := by
  obtain ⟨ad, kv, h1, h2, h3, h4, h5, h6⟩ := h.at3 (k := 0) (by simp)
  have e : ad.add (0 * 3) = ad := by rw [Nat.zero_mul]; rfl
  rw [e] at h3 h4 h5
  exact ⟨ad, kv, h1, h2, h3, h4, h5, h6⟩

set_option maxRecDepth 100000 in
set_option maxHeartbeats 4000000 in
theorem ways_label {word : Wd} {n : Nat} (hn : word.length = n) (hn1 : n ≤ 100000) {x : X} (hk : x.kind = 1) : S43 word n x := by
  intro N M w v wv hx hw hN hM
  obtain ⟨kx, rfl, hkx⟩ := hx
  obtain ⟨A, c, rfl⟩ := hkx.form
  have hws := hw
  obtain ⟨A2, c2, rfl, hw2⟩ := hw
  clear hw2
  rw [hn] at hws ⊢
  rw [hk]
  obtain ⟨lb, hlb⟩ : ∃ l, x.lab = l := ⟨_, rfl⟩
  rw [hlb]
  obtain ⟨W0, hW0⟩ : ∃ W0, w.alloc (.cells #[.int .i64 1, .string lb, .slice A x.kids.length c] 25) = W0 := ⟨_, rfl⟩
  obtain ⟨hb0, hz0, hbx, hkd⟩ := boxed_kids hW0 hkx hN
  have HB0 := Lib.hid hb0
  have HBX := Lib.hid hbx
  have HKD := Lib.hid hkd
  have HSR := Lib.hid (fun W (h : Below W0.heap.size W0 W) => hws.bel ((hb0.mono hM).trans (h.mono (by omega))))
  have HLB := Lib.hid (And.intro hk hlb)
  obtain ⟨d0, d1, d2⟩ := hbx W0 (Below.refl _ _)
  have HN1 := Lib.hid (And.intro (show N ≤ W0.heap.size by omega) (show M ≤ W0.heap.size by omega))
  have HNO := Lib.hid (fun W (h : Below W0.heap.size W0 W) => none60_any W n hn1)
  have HST := Lib.hid (fun W (h : Below W0.heap.size W0 W) => still61_any W n hn1)
  have HWL := Lib.hid hn
  clear hkx hws hbx hkd hb0 hz0 hk hlb hN hM
  go_enter Try.func43, Try.ntmps43
  go_upto_region 1 with (fail)
  try rw [hW0]
  go_upto_region 6 with (go_at_call 60; refine (HNO.out _ (Below.refl _ _)).mono ?_; rintro e w1 ⟨v1, rfl, hm1, hb1⟩; rw [none_p] at hm1; have H1 := Lib.hid (And.intro hm1 hb1); obtain ⟨d0, d1, d2⟩ := HBX.out _ hb1; clear hm1 hb1)
  obtain ⟨g, cg, r, rfl, hcg, hmt⟩ := H1.out.1
  have HM := Lib.hid (And.intro hmt H1.out.2)
  clear hmt H1 d0 d1 d2
  go_loopw [7] (fun u7 wr => ∃ k : Nat, k ≤ n ∧ u7 = .int .i64 k ∧ MtAt W0.heap.size wr g r n (pF fun i j => i < k ∧ Bt (wdF word) x.L i j) ∧ Below W0.heap.size W0 wr) (fun u7 _ => n + 1 - (intOf u7).toNat)
  case atStart => exact ⟨0, Nat.zero_le _, rfl, HM.out.1.ext_p (fun i j _ _ => by simp), HM.out.2⟩
  case round =>
    obtain ⟨k, hk, rfl, hm, hb⟩ := hrel
    have HR := Lib.hid (And.intro hm hb)
    by_cases hkn : k < n
    · have hki : (k : Int) < (n : Int) := by omega
      have hkw : k < word.length := by have := HWL.out; omega
      have hkl : k ≤ n := by omega
      have hk1 : k + 1 ≤ n := by omega
      have hk2 : k < n + 1 := by omega
      have hk3 : k + 1 < n + 1 := by omega
      obtain ⟨A2', c2', ew, hw2⟩ := HSR.out wr hb
      injection ew with ew1 ew2 ew3
      subst ew1 ew3
      obtain ⟨ad2, rfl, hab2, hcs2⟩ := hw2 (by omega)
      have e0 := hcs2 k hkw
      obtain ⟨s, hs⟩ : ∃ s, word[k] = s := ⟨_, rfl⟩
      rw [hs] at e0
      obtain ⟨d0, d1, d2⟩ := HBX.out wr hb
      have c1 := hm.cell hkl
      have c2 := hm.flag hkl hk1
      have c3 := hm.frozen hkl (k + 1)
      generalize hrk : r k = rk at *
      have HFIN := Lib.hid (show MtAt W0.heap.size (wr.setCell ⟨rk, k + 1, none⟩ (.bool (s.toList == lb.toList))).drew g r n (pF fun i j => i < k + 1 ∧ Bt (wdF word) x.L i j) ∧ Below W0.heap.size W0 (wr.setCell ⟨rk, k + 1, none⟩ (.bool (s.toList == lb.toList))).drew by
        have h4 := hm.set_p (P' := fun i j => i < k + 1 ∧ Bt (wdF word) x.L i j) hkl hk1 (s.toList == lb.toList) (by
          rw [text_same, Bt_label _ HLB.out.1, wdF_get hkw, hs, HLB.out.2]
          exact ⟨fun h => ⟨Nat.lt_succ_self _, rfl, h⟩, fun h => h.2.2⟩) (fun i' j' h => by
          rw [Bt_label _ HLB.out.1]
          constructor
          · rintro ⟨h1, h2⟩
            exact ⟨by omega, h2⟩
          · rintro ⟨h1, h2, h3⟩
            exact ⟨by omega, h2, h3⟩)
        rw [hrk] at h4
        have h5 := (hm.row k hkl).1
        rw [hrk] at h5
        exact ⟨h4.bel (Below.refl _ _).drew, (hb.setCell h5 _).drew⟩)
      clear hm hb hrk hs hw2 hcs2 hab2 hkw hn HR HNO HST HSR HKD HBX HLB
      go_upto_region 8 with (fail)
      obtain ⟨q, hq⟩ : ∃ q, (s.toList == lb.toList) = q := ⟨_, rfl⟩
      rw [hq] at HFIN
      go_region
      go_wp2_with fail
      go_roundw
      case rel => exact ⟨k + 1, by omega, by go_num, HFIN.out.1, HFIN.out.2⟩
      case measure => simp [intOf]; omega
    · have hki : ¬ (k : Int) < (n : Int) := by omega
      clear hm hb
      go_wp2_with fail
      go_ret
      refine ⟨_, rfl, ⟨g, cg, r, rfl, hcg, (HR.out.1.mono (Nat.zero_le _)).ext_p (fun i j hi hj => ?_)⟩, HB0.out.trans (HR.out.2.mono HB0.out.size)⟩
      constructor
      · rintro ⟨h1, h2⟩; exact h2
      · intro h2
        exact ⟨by have := ((Bt_label _ HLB.out.1 i j).1 h2).1; omega, h2⟩

set_option maxRecDepth 100000 in
set_option maxHeartbeats 4000000 in
theorem ways_seq {word : Wd} {n : Nat} (hn : word.length = n) (hn1 : n ≤ 100000) {x : X} (hk : x.kind = 2) (hkl : x.kids.length ≤ 100000) (ih : ∀ y ∈ x.kids, S43 word n y) : S43 word n x := by
  intro N M w v wv hx hw hN hM
  obtain ⟨kx, rfl, hkx⟩ := hx
  obtain ⟨A, c, rfl⟩ := hkx.form
  have hws := hw
  obtain ⟨A2, c2, rfl, hw2⟩ := hw
  clear hw2
  rw [hn] at hws ⊢
  rw [hk]
  obtain ⟨lb, hlb⟩ : ∃ l, x.lab = l := ⟨_, rfl⟩
  rw [hlb]
  obtain ⟨W0, hW0⟩ : ∃ W0, w.alloc (.cells #[.int .i64 2, .string lb, .slice A x.kids.length c] 25) = W0 := ⟨_, rfl⟩
  obtain ⟨hb0, hz0, hbx, hkd⟩ := boxed_kids hW0 hkx hN
  have HB0 := Lib.hid hb0
  have HBX := Lib.hid hbx
  have HKD := Lib.hid hkd
  have HSR := Lib.hid (fun W (h : Below W0.heap.size W0 W) => hws.bel ((hb0.mono hM).trans (h.mono (by omega))))
  have HLB := Lib.hid (And.intro hk hlb)
  obtain ⟨d0, d1, d2⟩ := hbx W0 (Below.refl _ _)
  have HN1 := Lib.hid (And.intro (show N ≤ W0.heap.size by omega) (show M ≤ W0.heap.size by omega))
  have HNO := Lib.hid (fun W (h : Below W0.heap.size W0 W) => none60_any W n hn1)
  have HST := Lib.hid (fun W (h : Below W0.heap.size W0 W) => still61_any W n hn1)
  have HWL := Lib.hid hn
  clear hkx hws hbx hkd hb0 hz0 hk hlb hN hM
  obtain ⟨kn, hkn⟩ : ∃ m, x.kids.length = m := ⟨_, rfl⟩
  obtain ⟨ks, hks⟩ : ∃ ks, x.kids = ks := ⟨_, rfl⟩
  have HKS := Lib.hid hks
  rw [hkn] at HKD d2 hW0 HBX hkl ⊢
  rw [hks] at HKD hkn ih
  have HIH := Lib.hid ih
  have HKN := Lib.hid hkn
  clear hks hkn ih
  go_enter Try.func43, Try.ntmps43
  go_upto_region 1 with (fail)
  try rw [hW0]
  go_upto_region 12 with (first | (go_at_call 60; refine (HNO.out _ (Below.refl _ _)).mono ?_; rintro e w1 ⟨v1, rfl, hm1, hb1⟩; rw [none_p] at hm1; have H1 := Lib.hid (And.intro hm1 hb1); obtain ⟨d0, d1, d2⟩ := HBX.out _ hb1; clear hm1 hb1) | (go_at_call 61; refine (HST.out _ H1.out.2).mono ?_; rintro e w2 ⟨v2, rfl, hm2, hb2⟩; have H2 := Lib.hid (And.intro hm2 (H1.out.2.trans (hb2.mono H1.out.2.size))); clear hm2 hb2))
  clear d0 d1 d2
  go_loopw [6, 8] (fun u6 ui wr => ∃ k : Nat, k ≤ kn ∧ ui = .int .i64 k ∧ Mt 0 wr u6 n (pF (Bt (wdF word) (LS (ks.take k)))) ∧ Below W0.heap.size W0 wr) (fun u6 ui _ => kn + 1 - (intOf ui).toNat)
  case atStart => exact ⟨0, Nat.zero_le _, rfl, (H2.out.1.mono (Nat.zero_le _)).ext_p (fun i j _ _ => by rw [List.take_zero, Bt_LS_nil]), H2.out.2⟩
  case round =>
    obtain ⟨k, hk, rfl, hm, hb⟩ := hrel
    have HR := Lib.hid (And.intro hm hb)
    obtain ⟨d0, d1, d2⟩ := HBX.out wr hb
    clear H1
    by_cases hkn : k < kn
    · have hki : (k : Int) < (kn : Int) := by omega
      have hkl2 : k < ks.length := by have := HKN.out; omega
      obtain ⟨ad, ky, e1, hbA, a0, a1, a2, hky⟩ := (HKD.out wr hb).at3 hkl2
      subst e1
      have hy43 := HIH.out ks[k] (List.getElem_mem _)
      have HTK := Lib.hid (List.take_succ_eq_append_getElem hkl2)
      obtain ⟨y, hy⟩ : ∃ y, ks[k] = y := ⟨_, rfl⟩
      rw [hy] at a0 a1 hky hy43 HTK
      have HC := Lib.hid (hy43 N M wr _ _ ⟨ky, rfl, hky⟩ (HSR.out wr hb) (Nat.le_trans HN1.out.1 hb.size) (Nat.le_trans HN1.out.2 hb.size))
      clear hm hb hky hy43 hy
      go_wp2_with (first
        | (go_at_call 43; refine HC.out.mono ?_; rintro e w3 ⟨v3, rfl, hm3, hb3⟩; have HM3 := Lib.hid (And.intro hm3 hb3); clear hm3 hb3)
        | (go_at_call 62; refine (joined62_any hn1 (HR.out.1.bel HM3.out.2) HM3.out.1).mono ?_; rintro e w4 ⟨v4, rfl, hm4, hb4⟩; have HM4 := Lib.hid (And.intro hm4 hb4); clear hm4 hb4))
      go_roundw
      case rel =>
        refine ⟨k + 1, by omega, by go_num, (HM4.out.1.mono (Nat.zero_le _)).ext_p (fun i j hi hj => ?_), HR.out.2.trans ((HM3.out.2.trans (HM4.out.2.mono HM3.out.2.size)).mono HR.out.2.size)⟩
        rw [HTK.out, Bt_LS_snoc]
        constructor
        · rintro ⟨l, _, _, h1, h2⟩; exact ⟨l, h1, h2⟩
        · rintro ⟨l, h1, h2⟩; exact ⟨l, h1.1, h2.1, h1, h2⟩
      case measure => simp [intOf]; omega
    · have hki : ¬ (k : Int) < (kn : Int) := by omega
      clear hm hb
      go_wp2_with fail
      go_ret
      refine ⟨_, rfl, HR.out.1.ext_p (fun i j hi hj => ?_), HB0.out.trans (HR.out.2.mono HB0.out.size)⟩
      rw [show ks.take k = ks by rw [show k = kn by omega, ← HKN.out]; exact List.take_length, ← HKS.out]
      exact (Bt_seq _ HLB.out.1 i j).symm

set_option maxRecDepth 100000 in
set_option maxHeartbeats 4000000 in
theorem ways_alt {word : Wd} {n : Nat} (hn : word.length = n) (hn1 : n ≤ 100000) {x : X} (hk : x.kind = 3) (hkl : x.kids.length ≤ 100000) (ih : ∀ y ∈ x.kids, S43 word n y) : S43 word n x := by
  intro N M w v wv hx hw hN hM
  obtain ⟨kx, rfl, hkx⟩ := hx
  obtain ⟨A, c, rfl⟩ := hkx.form
  have hws := hw
  obtain ⟨A2, c2, rfl, hw2⟩ := hw
  clear hw2
  rw [hn] at hws ⊢
  rw [hk]
  obtain ⟨lb, hlb⟩ : ∃ l, x.lab = l := ⟨_, rfl⟩
  rw [hlb]
  obtain ⟨W0, hW0⟩ : ∃ W0, w.alloc (.cells #[.int .i64 3, .string lb, .slice A x.kids.length c] 25) = W0 := ⟨_, rfl⟩
  obtain ⟨hb0, hz0, hbx, hkd⟩ := boxed_kids hW0 hkx hN
  have HB0 := Lib.hid hb0
  have HBX := Lib.hid hbx
  have HKD := Lib.hid hkd
  have HSR := Lib.hid (fun W (h : Below W0.heap.size W0 W) => hws.bel ((hb0.mono hM).trans (h.mono (by omega))))
  have HLB := Lib.hid (And.intro hk hlb)
  obtain ⟨d0, d1, d2⟩ := hbx W0 (Below.refl _ _)
  have HN1 := Lib.hid (And.intro (show N ≤ W0.heap.size by omega) (show M ≤ W0.heap.size by omega))
  have HNO := Lib.hid (fun W (h : Below W0.heap.size W0 W) => none60_any W n hn1)
  have HST := Lib.hid (fun W (h : Below W0.heap.size W0 W) => still61_any W n hn1)
  have HWL := Lib.hid hn
  clear hkx hws hbx hkd hb0 hz0 hk hlb hN hM
  obtain ⟨kn, hkn⟩ : ∃ m, x.kids.length = m := ⟨_, rfl⟩
  obtain ⟨ks, hks⟩ : ∃ ks, x.kids = ks := ⟨_, rfl⟩
  have HKS := Lib.hid hks
  rw [hkn] at HKD d2 hW0 HBX hkl ⊢
  rw [hks] at HKD hkn ih
  have HIH := Lib.hid ih
  have HKN := Lib.hid hkn
  clear hks hkn ih
  go_enter Try.func43, Try.ntmps43
  go_upto_region 1 with (fail)
  try rw [hW0]
  go_upto_region 17 with (go_at_call 60; refine (HNO.out _ (Below.refl _ _)).mono ?_; rintro e w1 ⟨v1, rfl, hm1, hb1⟩; rw [none_p] at hm1; have H1 := Lib.hid (And.intro hm1 hb1); obtain ⟨d0, d1, d2⟩ := HBX.out _ hb1; clear hm1 hb1)
  clear d0 d1 d2
  go_loopw [6, 9] (fun u6 ui wr => ∃ k : Nat, k ≤ kn ∧ ui = .int .i64 k ∧ Mt 0 wr u6 n (pF (Bt (wdF word) (LA (ks.take k)))) ∧ Below W0.heap.size W0 wr) (fun u6 ui _ => kn + 1 - (intOf ui).toNat)
  case atStart => exact ⟨0, Nat.zero_le _, rfl, (H1.out.1.mono (Nat.zero_le _)).ext_p (fun i j _ _ => by rw [List.take_zero, Bt_LA_nil]), H1.out.2⟩
  case round =>
    obtain ⟨k, hk, rfl, hm, hb⟩ := hrel
    have HR := Lib.hid (And.intro hm hb)
    obtain ⟨d0, d1, d2⟩ := HBX.out wr hb
    clear H1
    by_cases hkn : k < kn
    · have hki : (k : Int) < (kn : Int) := by omega
      have hkl2 : k < ks.length := by have := HKN.out; omega
      obtain ⟨ad, ky, e1, hbA, a0, a1, a2, hky⟩ := (HKD.out wr hb).at3 hkl2
      subst e1
      have hy43 := HIH.out ks[k] (List.getElem_mem _)
      have HTK := Lib.hid (List.take_succ_eq_append_getElem hkl2)
      obtain ⟨y, hy⟩ : ∃ y, ks[k] = y := ⟨_, rfl⟩
      rw [hy] at a0 a1 hky hy43 HTK
      have HC := Lib.hid (hy43 N M wr _ _ ⟨ky, rfl, hky⟩ (HSR.out wr hb) (Nat.le_trans HN1.out.1 hb.size) (Nat.le_trans HN1.out.2 hb.size))
      clear hm hb hky hy43 hy
      go_wp2_with (first
        | (go_at_call 43; refine HC.out.mono ?_; rintro e w3 ⟨v3, rfl, hm3, hb3⟩; have HM3 := Lib.hid (And.intro hm3 hb3); clear hm3 hb3)
        | (go_at_call 63; refine (either63_any hn1 (HR.out.1.bel HM3.out.2) HM3.out.1).mono ?_; rintro e w4 ⟨v4, rfl, hm4, hb4⟩; have HM4 := Lib.hid (And.intro hm4 hb4); clear hm4 hb4))
      go_roundw
      case rel =>
        refine ⟨k + 1, by omega, by go_num, (HM4.out.1.mono (Nat.zero_le _)).ext_p (fun i j hi hj => ?_), HR.out.2.trans ((HM3.out.2.trans (HM4.out.2.mono HM3.out.2.size)).mono HR.out.2.size)⟩
        rw [HTK.out, Bt_LA_snoc]
        constructor
        · rintro ⟨_, h⟩; exact h
        · rintro (h | h)
          · exact ⟨h.1, .inl h⟩
          · exact ⟨h.1, .inr h⟩
      case measure => simp [intOf]; omega
    · have hki : ¬ (k : Int) < (kn : Int) := by omega
      clear hm hb
      go_wp2_with fail
      go_ret
      refine ⟨_, rfl, HR.out.1.ext_p (fun i j hi hj => ?_), HB0.out.trans (HR.out.2.mono HB0.out.size)⟩
      rw [show ks.take k = ks by rw [show k = kn by omega, ← HKN.out]; exact List.take_length, ← HKS.out]
      exact (Bt_alt _ HLB.out.1 i j).symm

set_option maxRecDepth 100000 in
set_option maxHeartbeats 4000000 in
theorem ways_opt {word : Wd} {n : Nat} (hn : word.length = n) (hn1 : n ≤ 100000) {x a : X} (hk : x.kind = 6) (hxa : x.kids = [a]) (ih : S43 word n a) : S43 word n x := by
  intro N M w v wv hx hw hN hM
  obtain ⟨kx, rfl, hkx⟩ := hx
  obtain ⟨A, c, rfl⟩ := hkx.form
  have hws := hw
  obtain ⟨A2, c2, rfl, hw2⟩ := hw
  clear hw2
  rw [hn] at hws ⊢
  rw [hk]
  obtain ⟨lb, hlb⟩ : ∃ l, x.lab = l := ⟨_, rfl⟩
  rw [hlb]
  obtain ⟨W0, hW0⟩ : ∃ W0, w.alloc (.cells #[.int .i64 6, .string lb, .slice A x.kids.length c] 25) = W0 := ⟨_, rfl⟩
  obtain ⟨hb0, hz0, hbx, hkd⟩ := boxed_kids hW0 hkx hN
  have HB0 := Lib.hid hb0
  have HBX := Lib.hid hbx
  have HKD := Lib.hid hkd
  have HSR := Lib.hid (fun W (h : Below W0.heap.size W0 W) => hws.bel ((hb0.mono hM).trans (h.mono (by omega))))
  have HLB := Lib.hid (And.intro hk hlb)
  obtain ⟨d0, d1, d2⟩ := hbx W0 (Below.refl _ _)
  have HN1 := Lib.hid (And.intro (show N ≤ W0.heap.size by omega) (show M ≤ W0.heap.size by omega))
  have HNO := Lib.hid (fun W (h : Below W0.heap.size W0 W) => none60_any W n hn1)
  have HST := Lib.hid (fun W (h : Below W0.heap.size W0 W) => still61_any W n hn1)
  have HWL := Lib.hid hn
  clear hkx hws hbx hkd hb0 hz0 hk hlb hN hM
  have HXA := Lib.hid hxa
  rw [hxa] at HKD d2 hW0 HBX ⊢
  clear hxa
  simp only [List.length_cons, List.length_nil, Nat.zero_add] at HKD d2 hW0 HBX ⊢
  go_enter Try.func43, Try.ntmps43
  go_upto_region 1 with (fail)
  try rw [hW0]
  go_upto_region 21 with (go_at_call 60; refine (HNO.out _ (Below.refl _ _)).mono ?_; rintro e w1 ⟨v1, rfl, hm1, hb1⟩; rw [none_p] at hm1; have H1 := Lib.hid (And.intro hm1 hb1); obtain ⟨d0, d1, d2⟩ := HBX.out _ hb1; clear hm1 hb1)
  obtain ⟨ad, ky, rfl, hab, a0, a1, a2, hky⟩ := (HKD.out w1 H1.out.2).at0
  have HS := Lib.hid (fun W (h : Below w1.heap.size w1 W) => And.intro ((HBX.out W (H1.out.2.trans (h.mono H1.out.2.size))).2.2) (And.intro ((World.cell?_of_block (h.block _ (by have := H1.out.2.size; have := HN1.out.1; omega))).trans a0) (And.intro ((World.cell?_of_block (a := ⟨ad.block, ad.off + 1, none⟩) (h.block _ (by show ad.block < _; have := H1.out.2.size; have := HN1.out.1; omega))).trans a1) ((World.cell?_of_block (a := ⟨ad.block, ad.off + 2, none⟩) (h.block _ (by show ad.block < _; have := H1.out.2.size; have := HN1.out.1; omega))).trans a2))))
  have HC := Lib.hid (fun W (h : Below w1.heap.size w1 W) => ih N M W _ _ ⟨ky, rfl, hky.bel (h.mono (Nat.le_trans HN1.out.1 H1.out.2.size))⟩ (HSR.out W (H1.out.2.trans (h.mono H1.out.2.size))) (Nat.le_trans HN1.out.1 (Nat.le_trans H1.out.2.size h.size)) (Nat.le_trans HN1.out.2 (Nat.le_trans H1.out.2.size h.size)))
  have G0 := Lib.hid (Below.refl w1.heap.size w1).drew
  clear a0 a1 a2 hky hab d0 d1 d2 ih HKD HBX HSR
  refine wp_region_noPanic ?_
  refine wp_region_held_drew (S := fun W => (W.cell? ⟨w.heap.size, 2, none⟩ = some (.slice (some ad) 1 c) ∧ W.cell? ad = some (.int .i64 a.kind) ∧ W.cell? ⟨ad.block, ad.off + 1, none⟩ = some (.string a.lab) ∧ W.cell? ⟨ad.block, ad.off + 2, none⟩ = some ky)) (by kernel_rfl) (HS.out _ G0.out) (fun hHeld => ?_)
  clear hHeld
  refine wpAnyH_take (i := 0) (v := .int .i64 n) rfl (by kernel_rfl) (by kernel_rfl) (by kernel_rfl) (fun _ _ _ h => (h : False).elim) (Or.inl ⟨by rfl, ?_⟩) (HS.out _ G0.out) ?_
  · intro w hSw
    obtain ⟨hs0, hs1, hs2, hs3⟩ := hSw
    go_simp
  try simp only [Act.put, List.getElem_toArray, List.getElem_cons_zero, List.getElem_cons_succ, List.setIfInBounds_toArray, List.set_cons_zero, List.set_cons_succ]
  refine wpAnyH_take (i := 2) (v := .pointer (some ⟨w.heap.size, 2, none⟩)) rfl (by kernel_rfl) (by kernel_rfl) (by kernel_rfl) (fun _ _ _ h => (h : False).elim) (Or.inl ⟨by rfl, ?_⟩) (HS.out _ G0.out) ?_
  · intro w hSw
    obtain ⟨hs0, hs1, hs2, hs3⟩ := hSw
    go_simp
  try simp only [Act.put, List.getElem_toArray, List.getElem_cons_zero, List.getElem_cons_succ, List.setIfInBounds_toArray, List.set_cons_zero, List.set_cons_succ]
  refine wpAnyH_take (i := 3) (v := .slice (some ad) 1 c) rfl (by kernel_rfl) (by kernel_rfl) (by kernel_rfl) (fun _ _ _ h => (h : False).elim) (Or.inl ⟨by rfl, ?_⟩) (HS.out _ G0.out) ?_
  · intro w hSw
    obtain ⟨hs0, hs1, hs2, hs3⟩ := hSw
    go_simp
  try simp only [Act.put, List.getElem_toArray, List.getElem_cons_zero, List.getElem_cons_succ, List.setIfInBounds_toArray, List.set_cons_zero, List.set_cons_succ]
  refine wpAnyH_take (i := 4) (v := .pointer (some ad)) rfl (by kernel_rfl) (by kernel_rfl) (by kernel_rfl) (fun _ _ _ h => (h : False).elim) (Or.inl ⟨by rfl, ?_⟩) (HS.out _ G0.out) ?_
  · intro w hSw
    obtain ⟨hs0, hs1, hs2, hs3⟩ := hSw
    go_simp
  try simp only [Act.put, List.getElem_toArray, List.getElem_cons_zero, List.getElem_cons_succ, List.setIfInBounds_toArray, List.set_cons_zero, List.set_cons_succ]
  refine wpAnyH_take (i := 5) (v := .agg #[.int .i64 a.kind, .string a.lab, ky]) rfl (by kernel_rfl) (by kernel_rfl) (by kernel_rfl) (fun _ _ _ h => (h : False).elim) (Or.inl ⟨by rfl, ?_⟩) (HS.out _ G0.out) ?_
  · intro w hSw
    obtain ⟨hs0, hs1, hs2, hs3⟩ := hSw
    go_simp
  try simp only [Act.put, List.getElem_toArray, List.getElem_cons_zero, List.getElem_cons_succ, List.setIfInBounds_toArray, List.set_cons_zero, List.set_cons_succ]
  refine wpAnyH_take (i := 6) (v := .slice A2 n c2) rfl (by kernel_rfl) (by kernel_rfl) (by kernel_rfl) (fun _ _ _ h => (h : False).elim) (Or.inl ⟨by rfl, ?_⟩) (HS.out _ G0.out) ?_
  · intro w hSw
    obtain ⟨hs0, hs1, hs2, hs3⟩ := hSw
    go_simp
  try simp only [Act.put, List.getElem_toArray, List.getElem_cons_zero, List.getElem_cons_succ, List.setIfInBounds_toArray, List.set_cons_zero, List.set_cons_succ]
  refine wpAnyH_ready (rs := [1]) (by kernel_rfl) (by simp) ?_
  refine AllReadyH.cons rfl (fun K hK => ?_) AllReadyH.nil
  go_simp
  refine (HST.out _ (H1.out.2.trans (G0.out.mono H1.out.2.size))).mono ?_
  rintro e y2 ⟨v2, rfl, hm, hb⟩
  have M2 := Lib.hid hm
  have G2 := Lib.hid (G0.out.trans (hb.mono G0.out.size))
  have D2 := Lib.hid hb
  clear hm hb
  refine hK.out _ _ (HS.out _ G2.out) (fun _ => ?_)
  clear hK
  try simp only [Act.put, List.getElem_toArray, List.getElem_cons_zero, List.getElem_cons_succ, List.setIfInBounds_toArray, List.set_cons_zero, List.set_cons_succ]
  refine wpAnyH_ready (rs := [7]) (by kernel_rfl) (by simp) ?_
  refine AllReadyH.cons rfl (fun K hK => ?_) AllReadyH.nil
  go_simp
  refine (HC.out _ G2.out).mono ?_
  rintro e y7 ⟨v7, rfl, hm, hb⟩
  have M7 := Lib.hid hm
  have G7 := Lib.hid (G2.out.trans (hb.mono G2.out.size))
  have D7 := Lib.hid hb
  clear hm hb
  refine hK.out _ _ (HS.out _ G7.out) (fun _ => ?_)
  clear hK
  try simp only [Act.put, List.getElem_toArray, List.getElem_cons_zero, List.getElem_cons_succ, List.setIfInBounds_toArray, List.set_cons_zero, List.set_cons_succ]
  refine wpAnyH_ready (rs := [8]) (by kernel_rfl) (by simp) ?_
  refine AllReadyH.cons rfl (fun K hK => ?_) AllReadyH.nil
  go_simp
  refine (either63_any hn1 (M2.out.bel D7.out) M7.out).mono ?_
  rintro e y8 ⟨v8, rfl, hm, hb⟩
  have M8 := Lib.hid hm
  have G8 := Lib.hid (G7.out.trans (hb.mono G7.out.size))
  have D8 := Lib.hid hb
  clear hm hb
  refine hK.out _ _ (HS.out _ G8.out) (fun _ => ?_)
  clear hK
  try simp only [Act.put, List.getElem_toArray, List.getElem_cons_zero, List.getElem_cons_succ, List.setIfInBounds_toArray, List.set_cons_zero, List.set_cons_succ]
  refine wpAnyH_take (i := 9) (v := v8) rfl (by kernel_rfl) (by kernel_rfl) (by kernel_rfl) (fun _ _ _ h => (h : False).elim) (Or.inl ⟨by rfl, ?_⟩) (HS.out _ G8.out) ?_
  · intro w hSw
    obtain ⟨hs0, hs1, hs2, hs3⟩ := hSw
    go_simp
  try simp only [Act.put, List.getElem_toArray, List.getElem_cons_zero, List.getElem_cons_succ, List.setIfInBounds_toArray, List.set_cons_zero, List.set_cons_succ]
  refine ⟨by kernel_rfl, ?_⟩
  refine NoPanic.normal ?_
  go_wp2_with fail
  go_ret
  refine ⟨_, rfl, (M8.out.mono (Nat.zero_le _)).ext_p (fun i j hi hj => ?_), HB0.out.trans ((H1.out.2.trans (G8.out.mono H1.out.2.size)).mono HB0.out.size)⟩
  rw [Bt_opt _ HLB.out.1 HXA.out]
  constructor
  · rintro ⟨_, h⟩; exact h
  · rintro (h | h)
    · exact ⟨Nat.le_of_eq h, .inl h⟩
    · exact ⟨h.1, .inr h⟩

set_option maxRecDepth 100000 in
set_option maxHeartbeats 4000000 in
theorem ways_star {word : Wd} {n : Nat} (hn : word.length = n) (hn1 : n ≤ 100000) {x a : X} (hk : x.kind = 4) (hxa : x.kids = [a]) (ih : S43 word n a) : S43 word n x := by
  intro N M w v wv hx hw hN hM
  obtain ⟨kx, rfl, hkx⟩ := hx
  obtain ⟨A, c, rfl⟩ := hkx.form
  have hws := hw
  obtain ⟨A2, c2, rfl, hw2⟩ := hw
  clear hw2
  rw [hn] at hws ⊢
  rw [hk]
  obtain ⟨lb, hlb⟩ : ∃ l, x.lab = l := ⟨_, rfl⟩
  rw [hlb]
  obtain ⟨W0, hW0⟩ : ∃ W0, w.alloc (.cells #[.int .i64 4, .string lb, .slice A x.kids.length c] 25) = W0 := ⟨_, rfl⟩
  obtain ⟨hb0, hz0, hbx, hkd⟩ := boxed_kids hW0 hkx hN
  have HB0 := Lib.hid hb0
  have HBX := Lib.hid hbx
  have HKD := Lib.hid hkd
  have HSR := Lib.hid (fun W (h : Below W0.heap.size W0 W) => hws.bel ((hb0.mono hM).trans (h.mono (by omega))))
  have HLB := Lib.hid (And.intro hk hlb)
  obtain ⟨d0, d1, d2⟩ := hbx W0 (Below.refl _ _)
  have HN1 := Lib.hid (And.intro (show N ≤ W0.heap.size by omega) (show M ≤ W0.heap.size by omega))
  have HNO := Lib.hid (fun W (h : Below W0.heap.size W0 W) => none60_any W n hn1)
  have HST := Lib.hid (fun W (h : Below W0.heap.size W0 W) => still61_any W n hn1)
  have HWL := Lib.hid hn
  clear hkx hws hbx hkd hb0 hz0 hk hlb hN hM
  have HXA := Lib.hid hxa
  rw [hxa] at HKD d2 hW0 HBX ⊢
  clear hxa
  simp only [List.length_cons, List.length_nil, Nat.zero_add] at HKD d2 hW0 HBX ⊢
  go_enter Try.func43, Try.ntmps43
  go_upto_region 1 with (fail)
  try rw [hW0]
  go_upto_region 24 with (go_at_call 60; refine (HNO.out _ (Below.refl _ _)).mono ?_; rintro e w1 ⟨v1, rfl, hm1, hb1⟩; rw [none_p] at hm1; have H1 := Lib.hid (And.intro hm1 hb1); obtain ⟨d0, d1, d2⟩ := HBX.out _ hb1; clear hm1 hb1)
  obtain ⟨ad, ky, rfl, hab, a0, a1, a2, hky⟩ := (HKD.out w1 H1.out.2).at0
  have HC := Lib.hid (ih N M w1 _ _ ⟨ky, rfl, hky⟩ (HSR.out w1 H1.out.2) (Nat.le_trans HN1.out.1 H1.out.2.size) (Nat.le_trans HN1.out.2 H1.out.2.size))
  clear ih hky
  go_upto_region 27 with (first
    | (go_at_call 43; refine HC.out.mono ?_; rintro e w2 ⟨v2, rfl, hm2, hb2⟩; have M2 := Lib.hid (And.intro hm2 (H1.out.2.trans (hb2.mono H1.out.2.size))); clear hm2 hb2)
    | (go_at_call 61; refine (HST.out _ M2.out.2).mono ?_; rintro e w3 ⟨v3, rfl, hm3, hb3⟩; have M3 := Lib.hid (And.intro hm3 hb3); clear hm3 hb3)
    | (go_at_call 63; refine (either63_any hn1 M3.out.1 (M2.out.1.bel M3.out.2)).mono ?_; rintro e w4 ⟨v4, rfl, hm4, hb4⟩; have M4 := Lib.hid (And.intro hm4 hb4); clear hm4 hb4))
  have hb24 : Below w2.heap.size w2 w4 := M3.out.2.trans (M4.out.2.mono M3.out.2.size)
  have HW4 := Lib.hid (M2.out.2.trans (hb24.mono M2.out.2.size))
  have HONE := Lib.hid (M2.out.1.bel hb24)
  clear hb24 d0 d1 d2 a0 a1 a2
  go_loopw [6, 11] (fun u6 u11 wr => ∃ m : Nat, 1 ≤ m ∧ m ≤ 2 * n + 1 ∧ u11 = .int .i64 m ∧ Mt 0 wr u6 n (pF (St (Bt (wdF word) a.L) m)) ∧ Below w4.heap.size w4 wr) (fun u6 u11 _ => n + 1 - (intOf u11).toNat)
  case atStart =>
    refine ⟨1, Nat.le_refl _, by omega, rfl, (M4.out.1.mono (Nat.zero_le _)).ext_p (fun i j _ _ => ?_), Below.refl _ _⟩
    rw [St_one]
    constructor
    · rintro ⟨_, h⟩; exact h
    · rintro (h | h)
      · exact ⟨Nat.le_of_eq h, .inl h⟩
      · exact ⟨h.1, .inr h⟩
  case round =>
    obtain ⟨m, hm1, hm2, rfl, hm, hb⟩ := hrel
    have HR := Lib.hid (And.intro hm hb)
    have hbw := HW4.out.trans (hb.mono HW4.out.size)
    have HBW := Lib.hid hbw
    obtain ⟨d0, d1, d2⟩ := HBX.out wr hbw
    clear hm hb hbw
    by_cases hmn : m < n
    · have hmi : (m : Int) < (n : Int) := by omega
      go_wp2_with (go_at_call 62; refine (joined62_any hn1 HR.out.1 HR.out.1).mono ?_; rintro e w5 ⟨v5, rfl, hm5, hb5⟩; have HM5 := Lib.hid (And.intro hm5 hb5); clear hm5 hb5)
      go_roundw
      case rel =>
        refine ⟨2 * m, by omega, by omega, by go_num, (HM5.out.1.mono (Nat.zero_le _)).ext_p (fun i j _ _ => ?_), HR.out.2.trans (HM5.out.2.mono HR.out.2.size)⟩
        rw [show 2 * m = m + m by omega, St_add]
        constructor
        · rintro ⟨l, _, _, h1, h2⟩; exact ⟨l, h1, h2⟩
        · rintro ⟨l, h1, h2⟩; exact ⟨l, St.le (fun _ _ h => Bt.le h) h1, St.le (fun _ _ h => Bt.le h) h2, h1, h2⟩
      case measure => simp [intOf]; omega
    · have hmi : ¬ (m : Int) < (n : Int) := by omega
      go_wp2_with fail
      go_ret
      refine ⟨_, rfl, HR.out.1.ext_p (fun i j hi hj => ?_), HB0.out.trans (HBW.out.mono HB0.out.size)⟩
      exact (Bt_star _ HLB.out.1 HXA.out (by omega)).symm
set_option maxRecDepth 100000 in
set_option maxHeartbeats 4000000 in
theorem ways_plus {word : Wd} {n : Nat} (hn : word.length = n) (hn1 : n ≤ 100000) {x a : X} (hk : x.kind = 5) (hxa : x.kids = [a]) (ih : S43 word n a) : S43 word n x := by
  intro N M w v wv hx hw hN hM
  obtain ⟨kx, rfl, hkx⟩ := hx
  obtain ⟨A, c, rfl⟩ := hkx.form
  have hws := hw
  obtain ⟨A2, c2, rfl, hw2⟩ := hw
  clear hw2
  rw [hn] at hws ⊢
  rw [hk]
  obtain ⟨lb, hlb⟩ : ∃ l, x.lab = l := ⟨_, rfl⟩
  rw [hlb]
  obtain ⟨W0, hW0⟩ : ∃ W0, w.alloc (.cells #[.int .i64 5, .string lb, .slice A x.kids.length c] 25) = W0 := ⟨_, rfl⟩
  obtain ⟨hb0, hz0, hbx, hkd⟩ := boxed_kids hW0 hkx hN
  have HB0 := Lib.hid hb0
  have HBX := Lib.hid hbx
  have HKD := Lib.hid hkd
  have HSR := Lib.hid (fun W (h : Below W0.heap.size W0 W) => hws.bel ((hb0.mono hM).trans (h.mono (by omega))))
  have HLB := Lib.hid (And.intro hk hlb)
  obtain ⟨d0, d1, d2⟩ := hbx W0 (Below.refl _ _)
  have HN1 := Lib.hid (And.intro (show N ≤ W0.heap.size by omega) (show M ≤ W0.heap.size by omega))
  have HNO := Lib.hid (fun W (h : Below W0.heap.size W0 W) => none60_any W n hn1)
  have HST := Lib.hid (fun W (h : Below W0.heap.size W0 W) => still61_any W n hn1)
  have HWL := Lib.hid hn
  clear hkx hws hbx hkd hb0 hz0 hk hlb hN hM
  have HXA := Lib.hid hxa
  rw [hxa] at HKD d2 hW0 HBX ⊢
  clear hxa
  simp only [List.length_cons, List.length_nil, Nat.zero_add] at HKD d2 hW0 HBX ⊢
  go_enter Try.func43, Try.ntmps43
  go_upto_region 1 with (fail)
  try rw [hW0]
  go_upto_region 24 with (go_at_call 60; refine (HNO.out _ (Below.refl _ _)).mono ?_; rintro e w1 ⟨v1, rfl, hm1, hb1⟩; rw [none_p] at hm1; have H1 := Lib.hid (And.intro hm1 hb1); obtain ⟨d0, d1, d2⟩ := HBX.out _ hb1; clear hm1 hb1)
  obtain ⟨ad, ky, rfl, hab, a0, a1, a2, hky⟩ := (HKD.out w1 H1.out.2).at0
  have HC := Lib.hid (ih N M w1 _ _ ⟨ky, rfl, hky⟩ (HSR.out w1 H1.out.2) (Nat.le_trans HN1.out.1 H1.out.2.size) (Nat.le_trans HN1.out.2 H1.out.2.size))
  clear ih hky
  go_upto_region 27 with (first
    | (go_at_call 43; refine HC.out.mono ?_; rintro e w2 ⟨v2, rfl, hm2, hb2⟩; have M2 := Lib.hid (And.intro hm2 (H1.out.2.trans (hb2.mono H1.out.2.size))); clear hm2 hb2)
    | (go_at_call 61; refine (HST.out _ M2.out.2).mono ?_; rintro e w3 ⟨v3, rfl, hm3, hb3⟩; have M3 := Lib.hid (And.intro hm3 hb3); clear hm3 hb3)
    | (go_at_call 63; refine (either63_any hn1 M3.out.1 (M2.out.1.bel M3.out.2)).mono ?_; rintro e w4 ⟨v4, rfl, hm4, hb4⟩; have M4 := Lib.hid (And.intro hm4 hb4); clear hm4 hb4))
  have hb24 : Below w2.heap.size w2 w4 := M3.out.2.trans (M4.out.2.mono M3.out.2.size)
  have HW4 := Lib.hid (M2.out.2.trans (hb24.mono M2.out.2.size))
  have HONE := Lib.hid (M2.out.1.bel hb24)
  clear hb24 d0 d1 d2 a0 a1 a2
  go_loopw [6, 11] (fun u6 u11 wr => ∃ m : Nat, 1 ≤ m ∧ m ≤ 2 * n + 1 ∧ u11 = .int .i64 m ∧ Mt 0 wr u6 n (pF (St (Bt (wdF word) a.L) m)) ∧ Below w4.heap.size w4 wr) (fun u6 u11 _ => n + 1 - (intOf u11).toNat)
  case atStart =>
    refine ⟨1, Nat.le_refl _, by omega, rfl, (M4.out.1.mono (Nat.zero_le _)).ext_p (fun i j _ _ => ?_), Below.refl _ _⟩
    rw [St_one]
    constructor
    · rintro ⟨_, h⟩; exact h
    · rintro (h | h)
      · exact ⟨Nat.le_of_eq h, .inl h⟩
      · exact ⟨h.1, .inr h⟩
  case round =>
    obtain ⟨m, hm1, hm2, rfl, hm, hb⟩ := hrel
    have HR := Lib.hid (And.intro hm hb)
    have hbw := HW4.out.trans (hb.mono HW4.out.size)
    have HBW := Lib.hid hbw
    obtain ⟨d0, d1, d2⟩ := HBX.out wr hbw
    clear hm hb hbw
    by_cases hmn : m < n
    · have hmi : (m : Int) < (n : Int) := by omega
      go_wp2_with (go_at_call 62; refine (joined62_any hn1 HR.out.1 HR.out.1).mono ?_; rintro e w5 ⟨v5, rfl, hm5, hb5⟩; have HM5 := Lib.hid (And.intro hm5 hb5); clear hm5 hb5)
      go_roundw
      case rel =>
        refine ⟨2 * m, by omega, by omega, by go_num, (HM5.out.1.mono (Nat.zero_le _)).ext_p (fun i j _ _ => ?_), HR.out.2.trans (HM5.out.2.mono HR.out.2.size)⟩
        rw [show 2 * m = m + m by omega, St_add]
        constructor
        · rintro ⟨l, _, _, h1, h2⟩; exact ⟨l, h1, h2⟩
        · rintro ⟨l, h1, h2⟩; exact ⟨l, St.le (fun _ _ h => Bt.le h) h1, St.le (fun _ _ h => Bt.le h) h2, h1, h2⟩
      case measure => simp [intOf]; omega
    · have hmi : ¬ (m : Int) < (n : Int) := by omega
      have HO := Lib.hid (HONE.out.bel HR.out.2)
      go_wp2_with (go_at_call 62; refine (joined62_any hn1 HO.out HR.out.1).mono ?_; rintro e w5 ⟨v5, rfl, hm5, hb5⟩; have HM5 := Lib.hid (And.intro hm5 hb5); clear hm5 hb5)
      go_ret
      refine ⟨_, rfl, (HM5.out.1.mono (Nat.zero_le _)).ext_p (fun i j hi hj => ?_), HB0.out.trans ((HBW.out.trans (HM5.out.2.mono HBW.out.size)).mono HB0.out.size)⟩
      rw [Bt_plus _ HLB.out.1 HXA.out (m := m) (by omega)]
      constructor
      · rintro ⟨l, _, _, h1, h2⟩; exact ⟨l, h1, h2⟩
      · rintro ⟨l, h1, h2⟩; exact ⟨l, h1.1, St.le (fun _ _ h => Bt.le h) h2, h1, h2⟩
theorem good_one {x : X} (hg : x.good) (hk : x.kind = 4 ∨ x.kind = 5 ∨ x.kind = 6) : ∃ a, x.kids = [a] := by
  have h := hg.fit
  unfold X.fits fitB at h
  rw [if_neg (by omega), if_neg (by omega), if_pos hk, Bool.and_eq_true, decide_eq_true_iff, decide_eq_true_iff] at h
  match hx : x.kids, h.2 with
  | [a], _ => exact ⟨a, rfl⟩
theorem good_kind6 {x : X} (hg : x.good) : x.kind = 1 ∨ x.kind = 2 ∨ x.kind = 3 ∨ x.kind = 4 ∨ x.kind = 5 ∨ x.kind = 6 := by
  have h := hg.fit
  unfold X.fits fitB at h
  by_cases h1 : x.kind = 1
  · exact .inl h1
  · rw [if_neg h1] at h
    by_cases h2 : x.kind = 2 ∨ x.kind = 3
    · omega
    · rw [if_neg h2] at h
      by_cases h4 : x.kind = 4 ∨ x.kind = 5 ∨ x.kind = 6
      · omega
      · rw [if_neg h4] at h; cases h
theorem ways43_any {word : Wd} {n : Nat} (hn : word.length = n) (hn1 : n ≤ 100000) : ∀ x : X, x.sz ≤ 100000 → x.good → S43 word n x := by
  intro x
  induction x using X.ind' with
  | h x ih =>
    intro hsz hg
    have hle : szL x.kids ≤ 100000 := by have := x.sz_eq; omega
    have ih' : ∀ y ∈ x.kids, S43 word n y := fun y hy => ih y hy (by have := szL_mem hy; omega) (hg.kids y hy)
    rcases good_kind6 hg with h | h | h | h | h | h
    · exact ways_label hn hn1 h
    · exact ways_seq hn hn1 h (by have := len_szL x.kids; omega) ih'
    · exact ways_alt hn hn1 h (by have := len_szL x.kids; omega) ih'
    · obtain ⟨a, ha⟩ := good_one hg (by omega)
      exact ways_star hn hn1 h ha (ih' a (by rw [ha]; simp))
    · obtain ⟨a, ha⟩ := good_one hg (by omega)
      exact ways_plus hn hn1 h ha (ih' a (by rw [ha]; simp))
    · obtain ⟨a, ha⟩ := good_one hg (by omega)
      exact ways_opt hn hn1 h ha (ih' a (by rw [ha]; simp))
end Go.Proofs.Ytnohnkhhkeikoaa
