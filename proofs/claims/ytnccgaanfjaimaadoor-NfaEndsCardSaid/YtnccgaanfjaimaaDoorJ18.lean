/- Texts QS, QN, PG, one behind the other. -/
import Derived.Test.YtnccgaanfjaimaaDoorJ3
import Derived.Test.YtnccgaanfjaimaaDoorJ8
import Derived.Test.YtnccgaanfjaimaaDoorJ15
import Derived.Test.YtnccgaanfjaimaaDoorJ17
import Derived.IntWalk
import Derived.DataShut
set_option linter.unusedSimpArgs false
set_option linter.unusedVariables false
namespace Go.Proofs.YtnccgaanfjaimaaDoor
open Go.ChangeShapes Go.WideShapes Go.ChangeAt Go.RowKit
set_option linter.unusedVariables false
set_option linter.unusedSimpArgs false

attribute [local go_sem] Oper.semAt_some

/-- where a place leads to, whatever the label -/
def TP (x : X) (p : Int) (j : Nat) : Prop := (p = 0 ∧ x.fst 1 (j + 1) = true) ∨ (0 < p ∧ p ≤ x.pn ∧ x.fol 1 p.toNat (j + 1) = true)
def lbJ (x : X) (j : Nat) : ByteArray := x.ps[j]?.getD ⟨#[]⟩
theorem knN_bit (x : X) (l : List Int) (q : Nat) : (knN x l).testBit q = true ↔ ∃ p ∈ l, okP x p = true ∧ p.toNat = q := by
 unfold knN
 rw [orL_bit, List.any_map, List.any_eq_true]
 constructor
 ·rintro ⟨p, hp, h⟩
  rw [List.mem_filter] at hp
  simp only [Function.comp, Nat.testBit_two_pow, decide_eq_true_eq] at h
  exact ⟨p, hp.1, hp.2, h⟩
 ·rintro ⟨p, hp, ho, h⟩
  exact ⟨p, List.mem_filter.2 ⟨hp, ho⟩, by simp [Function.comp, Nat.testBit_two_pow, h]⟩
theorem step_els {x : X} (hs : x.pn ≤ 24) {n : Nat} (hn : n + 1 = x.pn) (l : List Int) (s : ByteArray) :
  posK (fun j => (∃ p ∈ l, TP x p j) ∧ lbJ x j = s) (n + 1) = els (stepN (nf x).1.labs (nfF x) (knN x l) s) := by
 have hk : knN x l < 2 ^ 32 := Nat.lt_of_lt_of_le (knN_lt x l) (Nat.pow_le_pow_right (by decide) (by omega))
 have hbit := stepN_bit (labs := (nf x).1.labs) (fo := nfF x) (fr := knN x l) (l := s) (n := 1 + x.pn) (by omega) (nf_bd x).1 hk
 refine posK_els (by omega) (fun j hj => ?_) (fun q hq => ?_)
 ·rw [hbit, nf_labs, List.getElem?_cons_succ]
  refine and_congr ?_ Iff.rfl
  constructor
  ·rintro ⟨p, hp, (⟨rfl, h⟩ | ⟨h1, h2, h⟩)⟩
   ·exact ⟨0, (knN_bit ..).2 ⟨0, hp, by simp [okP], rfl⟩, by rw [nfF_zero]; exact h⟩
   ·exact ⟨p.toNat, (knN_bit ..).2 ⟨p, hp, by unfold okP; rw [decide_eq_true_eq]; exact .inr ⟨h1, h2⟩, rfl⟩, by rw [nfF_pos x (by omega)]; exact h⟩
  ·rintro ⟨q, hq, hb⟩
   obtain ⟨p, hp, ho, rfl⟩ := (knN_bit ..).1 hq
   unfold okP at ho
   rw [decide_eq_true_eq] at ho
   rcases ho with rfl | ⟨h1, h2⟩
   ·exact ⟨0, hp, .inl ⟨rfl, by rw [← nfF_zero]; exact hb⟩⟩
   ·exact ⟨p, hp, .inr ⟨h1, h2, by rw [← nfF_pos x (by omega)]; exact hb⟩⟩
 ·rw [hbit] at hq
  obtain ⟨⟨p, _, h⟩, _⟩ := hq
  have := nfF_range p q h
  omega
theorem tp_take {x : X} {l : List Int} {k : Nat} (h : k < l.length) (j : Nat) : (∃ p ∈ l.take (k + 1), TP x p j) ↔ (∃ p ∈ l.take k, TP x p j) ∨ TP x l[k] j := by
 rw [List.take_succ_eq_append_getElem h]
 simp only [List.mem_append, List.mem_singleton]
 constructor
 ·rintro ⟨p, h | rfl, hp⟩
  ·exact .inl ⟨p, h, hp⟩
  ·exact .inr hp
 ·rintro (⟨p, h, hp⟩ | hp)
  ·exact ⟨p, .inl h, hp⟩
  ·exact ⟨_, .inr rfl, hp⟩
theorem str_ne {a b : ByteArray} (h : a ≠ b) : (a.toList == b.toList) = false := beq_eq_false_iff_ne.2 (fun e => h (by
 have : a.data.toList = b.data.toList := by rw [← ByteArray.toList_eq, ← ByteArray.toList_eq]; exact e
 exact ByteArray.ext (Array.toList_inj.1 this)))

set_option maxRecDepth 100000 in
set_option maxHeartbeats 4000000 in
theorem step28_any {M B : Nat} {w : World} {R : Nat} {x : X} {v : Value} {l : List Int} (h : RefX M B w R x) (hs : x.pn ≤ 24) (hv : IR w v l) (hlen : l.length ≤ 1000000) (s : ByteArray) :
  Calls Tryd.prog 28 #[.pointer (some ⟨R, 0, none⟩), v, .string s] w (ListQ (els (stepN (nf x).1.labs (nfF x) (knN x l) s)) w) := by
 obtain ⟨Al, cl, -, hlb⟩ := h.lab
 obtain ⟨K, vl, gF, gL, rfl, e2, e3, e4, e5, hrn, hF, -, -⟩ := h
 rw [← step_els hs e2 l s]
 have hlen1 : x.ps.length = K.n + 1 := e2.symm
 have HFOL := Lib.hid (fun W (hb : Below w.heap.size w W) => hrn.bel hb)
 have HFST := Lib.hid (fun W (hb : Below w.heap.size w W) => hF.bel hb)
 obtain ⟨A9, c9, hvl⟩ := row_form hrn.lab
 have hlc : vl = .slice A9 (K.n + 1) c9 := by rw [hvl]; show Value.slice A9 x.ps.length c9 = _; rw [hlen1]
 have HLAB := Lib.hid (show ∀ W, Below w.heap.size w W → ∀ k, k ≤ K.n → ∃ ad, A9 = some ad ∧ W.cell? (ad.add k) = some (.string (lbJ x k)) from fun W hb k hk => by
  have h1 := own_bel hrn.lab hb
  rw [hvl] at h1
  obtain ⟨A, c, e, hc⟩ := SR.of_own h1
  injection e with e _ _
  obtain ⟨ad, ea, _, hcc⟩ := hc (by omega)
  refine ⟨ad, e.trans ea, ?_⟩
  rw [hcc k (by omega)]
  unfold lbJ
  rw [List.getElem?_eq_getElem (by omega)]
  rfl)
 obtain ⟨n, hnn⟩ : ∃ y, K.n = y := ⟨_, rfl⟩
 have HNN := Lib.hid hnn
 have hn24 : n ≤ 23 := by omega
 have HV := Lib.hid (fun W (hb : Below w.heap.size w W) => hv.bel hb)
 obtain ⟨Av, cv, rfl, -⟩ := hv
 obtain ⟨m, hm⟩ : ∃ y, l.length = y := ⟨_, rfl⟩
 have HM := Lib.hid hm
 have HE := Lib.hid (And.intro e2 (And.intro e3 hlc))
 obtain ⟨M0, hM0, hmk⟩ := make_flags n (by omega)
 have HM0 := Lib.hid (FRat.made w hM0)
 have HB0 := Lib.hid ((Below.refl _ w).alloc (Nat.le_refl _) (.cells M0 4))
 obtain ⟨c0, c1, -, c3, -⟩ := hrn.cells
 rw [hlc, hnn] at c0
 rw [e3, hnn] at c1
 rw [hnn] at c3
 rw [hm] at hlen HV ⊢
 rw [hnn]
 unfold ListQ
 have HC := Lib.hid (show ∀ W, Below w.heap.size w W → W.cell? ⟨K.R, 0, none⟩ = some (.slice A9 (n + 1) c9) ∧ W.cell? ⟨K.R, 1, none⟩ = some (.slice (some ⟨gF, 0, none⟩) (n + 1) (n + 1)) ∧ W.cell? ⟨K.R, 3, none⟩ = some (.slice (some ⟨K.g, 0, none⟩) (n + 1) K.c) from fun W hb => by
  obtain ⟨d0, d1, -, d3, -⟩ := (hrn.bel hb).cells
  rw [hlc, hnn] at d0
  rw [e3, hnn] at d1
  rw [hnn] at d3
  exact ⟨d0, d1, d3⟩)
 have hpm : ∀ p ∈ l, True := fun _ _ => trivial
 clear hlb hrn hF hvl hlc hlen1 e2 e3 e4 e5 hm hnn hM0 hs hpm c1 c3
 go_enter Tryd.func28, Tryd.ntmps28
 go_upto_region 3 with (fail)
 clear hmk c0
 obtain ⟨W0, hW0⟩ : ∃ y, w.alloc (.cells M0 4) = y := ⟨_, rfl⟩
 rw [hW0] at HM0 HB0 ⊢
 clear hW0
 go_loopw [7, 8] (fun u7 u8 wr => ∃ k g : Nat, k ≤ m ∧ u8 = .int .i64 k ∧ u7 = .slice (some ⟨g, 0, none⟩) (n + 1) (n + 1) ∧ FRat w.heap.size wr g n (fun j => ∃ p ∈ l.take k, TP x p j) ∧ Below w.heap.size w wr) (fun _ u8 _ => m - (intOf u8).toNat)
 case atStart => exact ⟨0, w.heap.size, Nat.zero_le _, rfl, rfl, HM0.out.ext (fun j _ => by simp), HB0.out⟩
 case round =>
  obtain ⟨k, g, hk, rfl, rfl, hfr, hb⟩ := hrel
  have HR := Lib.hid (And.intro hfr hb)
  obtain ⟨c0, c1, c3⟩ := HC.out wr hb
  by_cases hlt : k < m
  ·have e1 : k < l.length := by rw [HM.out]; exact hlt
   obtain ⟨ad, rfl, q⟩ := IR.at (HV.out wr hb) k e1
   have HTP := Lib.hid (fun j => tp_take (x := x) e1 j)
   have HCK := Lib.hid (show ∀ W, Below wr.heap.size wr W → W.cell? (ad.add k) = some (.int .i64 l[k]) from fun W hW => by
    obtain ⟨ad', e, h⟩ := IR.at (HV.out W (hb.trans (hW.mono hb.size))) k e1
    injection e with e
    rw [e]
    exact h)
   generalize l[k] = p at q HTP HCK
   clear hfr hb e1
   by_cases hp0 : p = 0
   ·subst hp0
    have HD := Lib.hid (show ∀ W, Below wr.heap.size wr W → Calls Tryd.prog 58 #[.slice (some ⟨g, 0, none⟩) (n + 1) (n + 1), .slice (some ⟨gF, 0, none⟩) (n + 1) (n + 1)] W fun e w' => ∃ g', e = .returned (.slice (some ⟨g', 0, none⟩) (n + 1) (n + 1)) ∧ FRat w.heap.size w' g' n (fun j => ∃ p ∈ l.take (k + 1), TP x p j) ∧ Below w.heap.size w w' ∧ Below W.heap.size W w' from fun W hW => by
     have hbW := HR.out.2.trans (hW.mono HR.out.2.size)
     have h1 := HFST.out W hbW
     rw [HNN.out] at h1
     refine (either58_any (by omega) ⟨g, rfl, HR.out.1.bel hW⟩ ⟨gF, rfl, h1⟩).mono ?_
     rintro e w' ⟨v', rfl, ⟨g', rfl, hf⟩, hb'⟩
     refine ⟨g', rfl, (hf.mono hbW.size).ext (fun j _ => ?_), hbW.trans (hb'.mono hbW.size), hb'⟩
     rw [HTP.out j]
     refine or_congr Iff.rfl ?_
     unfold TP
     exact ⟨fun h => .inl ⟨rfl, h⟩, fun h => h.elim (fun h => h.2) (fun h => by omega)⟩)
    go_wp2_with (go_at_call 58; refine (HD.out _ (Below.refl _ _)).mono ?_; rintro e w2 ⟨g', rfl, hf, hb2, hb3⟩; have HR2 := Lib.hid (And.intro hf hb2); clear hf hb2)
    go_roundw
    case rel => exact ⟨k + 1, g', by omega, by go_num, rfl, HR2.out.1, HR2.out.2⟩
    case measure => simp [intOf]; omega
   ·by_cases hp1 : 0 < p
    ·by_cases hp2 : p ≤ (n : Int) + 1
     ·obtain ⟨i, rfl⟩ : ∃ i : Nat, p = (i : Int) + 1 := ⟨(p - 1).toNat, by omega⟩
      have hin : i ≤ n := by omega
      have hin1 : i < n + 1 := by omega
      have hin2 : (i : Int) < (n : Int) + 1 := by omega
      have hw1 : IntKind.i64.wrap (i : Int) = i := IntWalk.i64_in _ ⟨by omega, by omega⟩
      have hw2 : (i : Int) + 1 - 1 = i := by omega
      have c4 := (HFOL.out wr HR.out.2).nx.cell (i := i) (by rw [HNN.out]; exact hin)
      rw [HNN.out] at c4
      have HD := Lib.hid (show ∀ W, Below wr.heap.size wr W → Calls Tryd.prog 58 #[.slice (some ⟨g, 0, none⟩) (n + 1) (n + 1), .slice (some ⟨K.r i, 0, none⟩) (n + 1) (n + 1)] W fun e w' => ∃ g', e = .returned (.slice (some ⟨g', 0, none⟩) (n + 1) (n + 1)) ∧ FRat w.heap.size w' g' n (fun j => ∃ p ∈ l.take (k + 1), TP x p j) ∧ Below w.heap.size w w' ∧ Below W.heap.size W w' from fun W hW => by
       have hbW := HR.out.2.trans (hW.mono HR.out.2.size)
       have h0 := (HFOL.out W hbW).nx.row i (by rw [HNN.out]; exact hin)
       have h1 : FRat B W (K.r i) n (fun j => x.fol 1 (i + 1) (j + 1) = true) := by rw [HNN.out] at h0; exact ⟨h0.1, h0.2⟩
       refine (either58_any (by omega) ⟨g, rfl, HR.out.1.bel hW⟩ ⟨K.r i, rfl, h1⟩).mono ?_
       rintro e w' ⟨v', rfl, ⟨g', rfl, hf⟩, hb'⟩
       refine ⟨g', rfl, (hf.mono hbW.size).ext (fun j _ => ?_), hbW.trans (hb'.mono hbW.size), hb'⟩
       rw [HTP.out j]
       refine or_congr Iff.rfl ?_
       unfold TP
       rw [show ((i : Int) + 1).toNat = i + 1 by omega]
       have := HE.out.1
       have := HNN.out
       exact ⟨fun h => .inr ⟨by omega, by omega, h⟩, fun h => h.elim (fun h => by omega) (fun h => h.2.2)⟩)
      have H34 := Lib.hid (show ∀ W, Below wr.heap.size wr W → (W.cell? ⟨K.R, 3, none⟩ = some (.slice (some ⟨K.g, 0, none⟩) (n + 1) K.c) ∧ W.cell? ⟨K.g, i, none⟩ = some (.slice (some ⟨K.r i, 0, none⟩) (n + 1) (n + 1))) from fun W hW => by
       have hbW := HR.out.2.trans (hW.mono HR.out.2.size)
       have c4 := (HFOL.out W hbW).nx.cell (i := i) (by rw [HNN.out]; exact hin)
       rw [HNN.out] at c4
       exact ⟨(HC.out W hbW).2.2, c4⟩)
      generalize K.r i = rk at c4 HD H34
      generalize K.g = gg at c3 c4 H34
      generalize K.c = cc at c3 H34
      clear HTP
      have HS8 := Lib.hid (show ∀ W, Below wr.heap.size wr W → (W.cell? ⟨K.R, 3, none⟩ = some (.slice (some ⟨gg, 0, none⟩) (n + 1) cc) ∧ W.cell? ⟨gg, i, none⟩ = some (.slice (some ⟨rk, 0, none⟩) (n + 1) (n + 1))) ∧ W.cell? (ad.add k) = some (.int .i64 ((i : Int) + 1)) from fun W hW => ⟨H34.out W hW, HCK.out W hW⟩)
      clear c3 c4
      have ep : ((i : Int) + 1 == 0) = false := by simpa using (show ¬ (i : Int) + 1 = 0 by omega)
      have hkm : (k : Int) < (m : Int) := by omega
      go_upto_region 7 with (fail)
      clear c0 c1
      have G0 := Lib.hid (Below.refl wr.heap.size wr).drew
      have HS7 := Lib.hid (show ∀ W, Below wr.heap.size wr W → (W.cell? ⟨K.R, 0, none⟩ = some (.slice A9 (n + 1) c9) ∧ W.cell? (ad.add k) = some (.int .i64 ((i : Int) + 1))) from fun W hW => ⟨(HC.out W (HR.out.2.trans (hW.mono HR.out.2.size))).1, HCK.out W hW⟩)
      clear q ep
      refine wp_region_noPanic ?_
      refine wp_region_held_drew (S := fun W => W.cell? ⟨K.R, 0, none⟩ = some (.slice A9 (n + 1) c9) ∧ W.cell? (ad.add k) = some (.int .i64 ((i : Int) + 1))) (by kernel_rfl) (HS7.out _ G0.out) (fun hHeld => ?_)
      clear hHeld
      refine tkI (i := 0) (v := .slice (some ad) m cv) rfl ⟨by rfl, ?_⟩ (HS7.out _ G0.out) ?_
      ·intro w hSw
       obtain ⟨hs0, hs1⟩ := hSw
       go_simp
      try simp only [Act.put, z1, z2, z3, z4, z5, z6]
      refine tkI (i := 1) (v := .int .i64 k) rfl ⟨by rfl, ?_⟩ (HS7.out _ G0.out) ?_
      ·intro w hSw
       obtain ⟨hs0, hs1⟩ := hSw
       go_simp
      try simp only [Act.put, z1, z2, z3, z4, z5, z6]
      refine tkI (i := 2) (v := .pointer (some (ad.add k))) rfl ⟨by rfl, ?_⟩ (HS7.out _ G0.out) ?_
      ·intro w hSw
       obtain ⟨hs0, hs1⟩ := hSw
       go_simp
      try simp only [Act.put, z1, z2, z3, z4, z5, z6]
      refine tkI (i := 3) (v := .int .i64 ((i : Int) + 1)) rfl ⟨by rfl, ?_⟩ (HS7.out _ G0.out) ?_
      ·intro w hSw
       obtain ⟨hs0, hs1⟩ := hSw
       go_simp
      try simp only [Act.put, z1, z2, z3, z4, z5, z6]
      refine tkI (i := 4) (v := .bool true) rfl ⟨by rfl, ?_⟩ (HS7.out _ G0.out) ?_
      ·intro w hSw
       obtain ⟨hs0, hs1⟩ := hSw
       go_simp
      try simp only [Act.put, z1, z2, z3, z4, z5, z6]
      refine tkI (i := 5) (v := .bool true) rfl ⟨by rfl, ?_⟩ (HS7.out _ G0.out) ?_
      ·intro w hSw
       obtain ⟨hs0, hs1⟩ := hSw
       go_simp
      try simp only [Act.put, z1, z2, z3, z4, z5, z6]
      refine tkI (i := 6) (v := .slice (some ad) m cv) rfl ⟨by rfl, ?_⟩ (HS7.out _ G0.out) ?_
      ·intro w hSw
       obtain ⟨hs0, hs1⟩ := hSw
       go_simp
      try simp only [Act.put, z1, z2, z3, z4, z5, z6]
      refine tkI (i := 7) (v := .int .i64 k) rfl ⟨by rfl, ?_⟩ (HS7.out _ G0.out) ?_
      ·intro w hSw
       obtain ⟨hs0, hs1⟩ := hSw
       go_simp
      try simp only [Act.put, z1, z2, z3, z4, z5, z6]
      refine tkI (i := 8) (v := .pointer (some (ad.add k))) rfl ⟨by rfl, ?_⟩ (HS7.out _ G0.out) ?_
      ·intro w hSw
       obtain ⟨hs0, hs1⟩ := hSw
       go_simp
      try simp only [Act.put, z1, z2, z3, z4, z5, z6]
      refine tkI (i := 9) (v := .int .i64 ((i : Int) + 1)) rfl ⟨by rfl, ?_⟩ (HS7.out _ G0.out) ?_
      ·intro w hSw
       obtain ⟨hs0, hs1⟩ := hSw
       go_simp
      try simp only [Act.put, z1, z2, z3, z4, z5, z6]
      refine tkI (i := 10) (v := .pointer (some ⟨K.R, 0, none⟩)) rfl ⟨by rfl, ?_⟩ (HS7.out _ G0.out) ?_
      ·intro w hSw
       obtain ⟨hs0, hs1⟩ := hSw
       go_simp
      try simp only [Act.put, z1, z2, z3, z4, z5, z6]
      refine tkI (i := 11) (v := .pointer (some ⟨K.R, 0, none⟩)) rfl ⟨by rfl, ?_⟩ (HS7.out _ G0.out) ?_
      ·intro w hSw
       obtain ⟨hs0, hs1⟩ := hSw
       go_simp
      try simp only [Act.put, z1, z2, z3, z4, z5, z6]
      refine tkI (i := 12) (v := .pointer (some ⟨K.R, 0, none⟩)) rfl ⟨by rfl, ?_⟩ (HS7.out _ G0.out) ?_
      ·intro w hSw
       obtain ⟨hs0, hs1⟩ := hSw
       go_simp
      try simp only [Act.put, z1, z2, z3, z4, z5, z6]
      refine tkI (i := 13) (v := .slice A9 (n + 1) c9) rfl ⟨by rfl, ?_⟩ (HS7.out _ G0.out) ?_
      ·intro w hSw
       obtain ⟨hs0, hs1⟩ := hSw
       go_simp
      try simp only [Act.put, z1, z2, z3, z4, z5, z6]
      refine tkI (i := 14) (v := .int .i64 ((n : Int) + 1)) rfl ⟨by rfl, ?_⟩ (HS7.out _ G0.out) ?_
      ·intro w hSw
       obtain ⟨hs0, hs1⟩ := hSw
       go_simp
      try simp only [Act.put, z1, z2, z3, z4, z5, z6]
      refine tkI (i := 15) (v := .bool true) rfl ⟨by rfl, ?_⟩ (HS7.out _ G0.out) ?_
      ·intro w hSw
       obtain ⟨hs0, hs1⟩ := hSw
       go_simp
      try simp only [Act.put, z1, z2, z3, z4, z5, z6]
      refine tkI (i := 16) (v := .bool true) rfl ⟨by rfl, ?_⟩ (HS7.out _ G0.out) ?_
      ·intro w hSw
       obtain ⟨hs0, hs1⟩ := hSw
       go_simp
      try simp only [Act.put, z1, z2, z3, z4, z5, z6]
      refine tkI (i := 17) (v := .bool true) rfl ⟨by rfl, ?_⟩ (HS7.out _ G0.out) ?_
      ·intro w hSw
       obtain ⟨hs0, hs1⟩ := hSw
       go_simp
      try simp only [Act.put, z1, z2, z3, z4, z5, z6]
      refine ⟨by kernel_rfl, ?_⟩
      refine NoPanic.normal ?_
      have G1 := Lib.hid (G0.out)
      go_upto_region 8 with (fail)
      have G1 := Lib.hid (G0.out.drew)
      refine wp_region_noPanic ?_
      refine wp_region_held_drew (S := fun W => (W.cell? ⟨K.R, 3, none⟩ = some (.slice (some ⟨gg, 0, none⟩) (n + 1) cc) ∧ W.cell? ⟨gg, i, none⟩ = some (.slice (some ⟨rk, 0, none⟩) (n + 1) (n + 1))) ∧ W.cell? (ad.add k) = some (.int .i64 ((i : Int) + 1))) (by kernel_rfl) (HS8.out _ G1.out) (fun hHeld => ?_)
      clear hHeld
      refine tkI (i := 0) (v := .slice (some ⟨g, 0, none⟩) (n + 1) (n + 1)) rfl ⟨by rfl, ?_⟩ (HS8.out _ G1.out) ?_
      ·intro w hSw
       obtain ⟨⟨hs0, hs2⟩, hs1⟩ := hSw
       go_simp
      try simp only [Act.put, z1, z2, z3, z4, z5, z6]
      refine tkI (i := 1) (v := .pointer (some ⟨K.R, 0, none⟩)) rfl ⟨by rfl, ?_⟩ (HS8.out _ G1.out) ?_
      ·intro w hSw
       obtain ⟨⟨hs0, hs2⟩, hs1⟩ := hSw
       go_simp
      try simp only [Act.put, z1, z2, z3, z4, z5, z6]
      refine tkI (i := 2) (v := .pointer (some ⟨K.R, 0, none⟩)) rfl ⟨by rfl, ?_⟩ (HS8.out _ G1.out) ?_
      ·intro w hSw
       obtain ⟨⟨hs0, hs2⟩, hs1⟩ := hSw
       go_simp
      try simp only [Act.put, z1, z2, z3, z4, z5, z6]
      refine tkI (i := 3) (v := .pointer (some ⟨K.R, 3, none⟩)) rfl ⟨by rfl, ?_⟩ (HS8.out _ G1.out) ?_
      ·intro w hSw
       obtain ⟨⟨hs0, hs2⟩, hs1⟩ := hSw
       go_simp
      try simp only [Act.put, z1, z2, z3, z4, z5, z6]
      refine tkI (i := 4) (v := .slice (some ⟨gg, 0, none⟩) (n + 1) cc) rfl ⟨by rfl, ?_⟩ (HS8.out _ G1.out) ?_
      ·intro w hSw
       obtain ⟨⟨hs0, hs2⟩, hs1⟩ := hSw
       go_simp
      try simp only [Act.put, z1, z2, z3, z4, z5, z6]
      refine tkI (i := 5) (v := .slice (some ad) m cv) rfl ⟨by rfl, ?_⟩ (HS8.out _ G1.out) ?_
      ·intro w hSw
       obtain ⟨⟨hs0, hs2⟩, hs1⟩ := hSw
       go_simp
      try simp only [Act.put, z1, z2, z3, z4, z5, z6]
      refine tkI (i := 6) (v := .int .i64 k) rfl ⟨by rfl, ?_⟩ (HS8.out _ G1.out) ?_
      ·intro w hSw
       obtain ⟨⟨hs0, hs2⟩, hs1⟩ := hSw
       go_simp
      try simp only [Act.put, z1, z2, z3, z4, z5, z6]
      refine tkI (i := 7) (v := .pointer (some (ad.add k))) rfl ⟨by rfl, ?_⟩ (HS8.out _ G1.out) ?_
      ·intro w hSw
       obtain ⟨⟨hs0, hs2⟩, hs1⟩ := hSw
       go_simp
      try simp only [Act.put, z1, z2, z3, z4, z5, z6]
      refine tkI (i := 8) (v := .int .i64 ((i : Int) + 1)) rfl ⟨by rfl, ?_⟩ (HS8.out _ G1.out) ?_
      ·intro w hSw
       obtain ⟨⟨hs0, hs2⟩, hs1⟩ := hSw
       go_simp
      try simp only [Act.put, z1, z2, z3, z4, z5, z6]
      refine tkI (i := 9) (v := .int .i64 i) rfl ⟨by rfl, ?_⟩ (HS8.out _ G1.out) ?_
      ·intro w hSw
       obtain ⟨⟨hs0, hs2⟩, hs1⟩ := hSw
       go_simp
      try simp only [Act.put, z1, z2, z3, z4, z5, z6]
      refine tkI (i := 10) (v := .pointer (some ⟨gg, i, none⟩)) rfl ⟨by rfl, ?_⟩ (HS8.out _ G1.out) ?_
      ·intro w hSw
       obtain ⟨⟨hs0, hs2⟩, hs1⟩ := hSw
       go_simp
      try simp only [Act.put, z1, z2, z3, z4, z5, z6]
      refine tkI (i := 11) (v := .slice (some ⟨rk, 0, none⟩) (n + 1) (n + 1)) rfl ⟨by rfl, ?_⟩ (HS8.out _ G1.out) ?_
      ·intro w hSw
       obtain ⟨⟨hs0, hs2⟩, hs1⟩ := hSw
       go_simp
      try simp only [Act.put, z1, z2, z3, z4, z5, z6]
      refine wpAnyH_ready (rs := [12]) (by kernel_rfl) (by simp) ?_
      refine AllReadyH.cons rfl (fun K hK => ?_) AllReadyH.nil
      go_simp
      refine (HD.out _ G1.out).mono ?_
      rintro e w2 ⟨g', rfl, hf, hb2, hb3⟩
      have HR2 := Lib.hid (And.intro hf hb2)
      have G2 := Lib.hid (G1.out.trans (hb3.mono G1.out.size))
      clear hf hb2 hb3
      refine hK.out _ _ (HS8.out _ G2.out) (fun _ => ?_)
      clear hK
      try simp only [Act.put, z1, z2, z3, z4, z5, z6]
      refine tkI (i := 13) (v := .slice (some ⟨g', 0, none⟩) (n + 1) (n + 1)) rfl ⟨by rfl, ?_⟩ (HS8.out _ G2.out) ?_
      ·intro w hSw
       obtain ⟨⟨hs0, hs2⟩, hs1⟩ := hSw
       go_simp
      try simp only [Act.put, z1, z2, z3, z4, z5, z6]
      refine ⟨by kernel_rfl, ?_⟩
      refine NoPanic.normal ?_
      go_wp2_with fail
      go_roundw
      case rel => exact ⟨k + 1, g', by omega, by go_num, rfl, HR2.out.1, HR2.out.2⟩
      case measure => simp [intOf]; omega
     ·have HQ := Lib.hid (show ∀ W, Below wr.heap.size wr W → FRat w.heap.size W g n (fun j => ∃ p ∈ l.take (k + 1), TP x p j) ∧ Below w.heap.size w W from fun W hW => ⟨(HR.out.1.bel hW).ext (fun j _ => by
       rw [HTP.out j]
       unfold TP
       have := HE.out.1
       have := HNN.out
       exact ⟨.inl, fun h => h.elim id (fun h => h.elim (fun h => absurd h.1 hp0) (fun h => by omega))⟩), HR.out.2.trans (hW.mono HR.out.2.size)⟩)
      clear HTP
      clear c3
      have ep : (p == 0) = false := by simpa using (show ¬ p = 0 by omega)
      have hkm : (k : Int) < (m : Int) := by omega
      go_upto_region 7 with (fail)
      clear c0 c1
      have G0 := Lib.hid (Below.refl wr.heap.size wr).drew
      have HS7 := Lib.hid (show ∀ W, Below wr.heap.size wr W → (W.cell? ⟨K.R, 0, none⟩ = some (.slice A9 (n + 1) c9) ∧ W.cell? (ad.add k) = some (.int .i64 p)) from fun W hW => ⟨(HC.out W (HR.out.2.trans (hW.mono HR.out.2.size))).1, HCK.out W hW⟩)
      clear q ep
      refine wp_region_noPanic ?_
      refine wp_region_held_drew (S := fun W => W.cell? ⟨K.R, 0, none⟩ = some (.slice A9 (n + 1) c9) ∧ W.cell? (ad.add k) = some (.int .i64 p)) (by kernel_rfl) (HS7.out _ G0.out) (fun hHeld => ?_)
      clear hHeld
      refine tkI (i := 0) (v := .slice (some ad) m cv) rfl ⟨by rfl, ?_⟩ (HS7.out _ G0.out) ?_
      ·intro w hSw
       obtain ⟨hs0, hs1⟩ := hSw
       go_simp
      try simp only [Act.put, z1, z2, z3, z4, z5, z6]
      refine tkI (i := 1) (v := .int .i64 k) rfl ⟨by rfl, ?_⟩ (HS7.out _ G0.out) ?_
      ·intro w hSw
       obtain ⟨hs0, hs1⟩ := hSw
       go_simp
      try simp only [Act.put, z1, z2, z3, z4, z5, z6]
      refine tkI (i := 2) (v := .pointer (some (ad.add k))) rfl ⟨by rfl, ?_⟩ (HS7.out _ G0.out) ?_
      ·intro w hSw
       obtain ⟨hs0, hs1⟩ := hSw
       go_simp
      try simp only [Act.put, z1, z2, z3, z4, z5, z6]
      refine tkI (i := 3) (v := .int .i64 p) rfl ⟨by rfl, ?_⟩ (HS7.out _ G0.out) ?_
      ·intro w hSw
       obtain ⟨hs0, hs1⟩ := hSw
       go_simp
      try simp only [Act.put, z1, z2, z3, z4, z5, z6]
      refine tkI (i := 4) (v := .bool true) rfl ⟨by rfl, ?_⟩ (HS7.out _ G0.out) ?_
      ·intro w hSw
       obtain ⟨hs0, hs1⟩ := hSw
       go_simp
      try simp only [Act.put, z1, z2, z3, z4, z5, z6]
      refine tkI (i := 5) (v := .bool true) rfl ⟨by rfl, ?_⟩ (HS7.out _ G0.out) ?_
      ·intro w hSw
       obtain ⟨hs0, hs1⟩ := hSw
       go_simp
      try simp only [Act.put, z1, z2, z3, z4, z5, z6]
      refine tkI (i := 6) (v := .slice (some ad) m cv) rfl ⟨by rfl, ?_⟩ (HS7.out _ G0.out) ?_
      ·intro w hSw
       obtain ⟨hs0, hs1⟩ := hSw
       go_simp
      try simp only [Act.put, z1, z2, z3, z4, z5, z6]
      refine tkI (i := 7) (v := .int .i64 k) rfl ⟨by rfl, ?_⟩ (HS7.out _ G0.out) ?_
      ·intro w hSw
       obtain ⟨hs0, hs1⟩ := hSw
       go_simp
      try simp only [Act.put, z1, z2, z3, z4, z5, z6]
      refine tkI (i := 8) (v := .pointer (some (ad.add k))) rfl ⟨by rfl, ?_⟩ (HS7.out _ G0.out) ?_
      ·intro w hSw
       obtain ⟨hs0, hs1⟩ := hSw
       go_simp
      try simp only [Act.put, z1, z2, z3, z4, z5, z6]
      refine tkI (i := 9) (v := .int .i64 p) rfl ⟨by rfl, ?_⟩ (HS7.out _ G0.out) ?_
      ·intro w hSw
       obtain ⟨hs0, hs1⟩ := hSw
       go_simp
      try simp only [Act.put, z1, z2, z3, z4, z5, z6]
      refine tkI (i := 10) (v := .pointer (some ⟨K.R, 0, none⟩)) rfl ⟨by rfl, ?_⟩ (HS7.out _ G0.out) ?_
      ·intro w hSw
       obtain ⟨hs0, hs1⟩ := hSw
       go_simp
      try simp only [Act.put, z1, z2, z3, z4, z5, z6]
      refine tkI (i := 11) (v := .pointer (some ⟨K.R, 0, none⟩)) rfl ⟨by rfl, ?_⟩ (HS7.out _ G0.out) ?_
      ·intro w hSw
       obtain ⟨hs0, hs1⟩ := hSw
       go_simp
      try simp only [Act.put, z1, z2, z3, z4, z5, z6]
      refine tkI (i := 12) (v := .pointer (some ⟨K.R, 0, none⟩)) rfl ⟨by rfl, ?_⟩ (HS7.out _ G0.out) ?_
      ·intro w hSw
       obtain ⟨hs0, hs1⟩ := hSw
       go_simp
      try simp only [Act.put, z1, z2, z3, z4, z5, z6]
      refine tkI (i := 13) (v := .slice A9 (n + 1) c9) rfl ⟨by rfl, ?_⟩ (HS7.out _ G0.out) ?_
      ·intro w hSw
       obtain ⟨hs0, hs1⟩ := hSw
       go_simp
      try simp only [Act.put, z1, z2, z3, z4, z5, z6]
      refine tkI (i := 14) (v := .int .i64 ((n : Int) + 1)) rfl ⟨by rfl, ?_⟩ (HS7.out _ G0.out) ?_
      ·intro w hSw
       obtain ⟨hs0, hs1⟩ := hSw
       go_simp
      try simp only [Act.put, z1, z2, z3, z4, z5, z6]
      refine tkI (i := 15) (v := .bool false) rfl ⟨by rfl, ?_⟩ (HS7.out _ G0.out) ?_
      ·intro w hSw
       obtain ⟨hs0, hs1⟩ := hSw
       go_simp
      try simp only [Act.put, z1, z2, z3, z4, z5, z6]
      refine tkI (i := 16) (v := .bool false) rfl ⟨by rfl, ?_⟩ (HS7.out _ G0.out) ?_
      ·intro w hSw
       obtain ⟨hs0, hs1⟩ := hSw
       go_simp
      try simp only [Act.put, z1, z2, z3, z4, z5, z6]
      refine tkI (i := 17) (v := .bool false) rfl ⟨by rfl, ?_⟩ (HS7.out _ G0.out) ?_
      ·intro w hSw
       obtain ⟨hs0, hs1⟩ := hSw
       go_simp
      try simp only [Act.put, z1, z2, z3, z4, z5, z6]
      refine ⟨by kernel_rfl, ?_⟩
      refine NoPanic.normal ?_
      go_wp2_with fail
      go_roundw
      case rel => exact ⟨k + 1, g, by omega, by go_num, rfl, HQ.out _ G0.out⟩
      case measure => simp [intOf]; omega
    ·have HQ := Lib.hid (show ∀ W, Below wr.heap.size wr W → FRat w.heap.size W g n (fun j => ∃ p ∈ l.take (k + 1), TP x p j) ∧ Below w.heap.size w W from fun W hW => ⟨(HR.out.1.bel hW).ext (fun j _ => by
      rw [HTP.out j]
      unfold TP
      exact ⟨.inl, fun h => h.elim id (fun h => h.elim (fun h => absurd h.1 hp0) (fun h => by omega))⟩), HR.out.2.trans (hW.mono HR.out.2.size)⟩)
     clear HTP
     clear c3
     have ep : (p == 0) = false := by simpa using (show ¬ p = 0 by omega)
     have hkm : (k : Int) < (m : Int) := by omega
     go_upto_region 7 with (fail)
     clear c0 c1
     have G0 := Lib.hid (Below.refl wr.heap.size wr).drew
     have HS7 := Lib.hid (show ∀ W, Below wr.heap.size wr W → (W.cell? ⟨K.R, 0, none⟩ = some (.slice A9 (n + 1) c9) ∧ W.cell? (ad.add k) = some (.int .i64 p)) from fun W hW => ⟨(HC.out W (HR.out.2.trans (hW.mono HR.out.2.size))).1, HCK.out W hW⟩)
     clear q ep
     refine wp_region_noPanic ?_
     refine wp_region_held_drew (S := fun W => W.cell? ⟨K.R, 0, none⟩ = some (.slice A9 (n + 1) c9) ∧ W.cell? (ad.add k) = some (.int .i64 p)) (by kernel_rfl) (HS7.out _ G0.out) (fun hHeld => ?_)
     clear hHeld
     refine tkI (i := 0) (v := .slice (some ad) m cv) rfl ⟨by rfl, ?_⟩ (HS7.out _ G0.out) ?_
     ·intro w hSw
      obtain ⟨hs0, hs1⟩ := hSw
      go_simp
     try simp only [Act.put, z1, z2, z3, z4, z5, z6]
     refine tkI (i := 1) (v := .int .i64 k) rfl ⟨by rfl, ?_⟩ (HS7.out _ G0.out) ?_
     ·intro w hSw
      obtain ⟨hs0, hs1⟩ := hSw
      go_simp
     try simp only [Act.put, z1, z2, z3, z4, z5, z6]
     refine tkI (i := 2) (v := .pointer (some (ad.add k))) rfl ⟨by rfl, ?_⟩ (HS7.out _ G0.out) ?_
     ·intro w hSw
      obtain ⟨hs0, hs1⟩ := hSw
      go_simp
     try simp only [Act.put, z1, z2, z3, z4, z5, z6]
     refine tkI (i := 3) (v := .int .i64 p) rfl ⟨by rfl, ?_⟩ (HS7.out _ G0.out) ?_
     ·intro w hSw
      obtain ⟨hs0, hs1⟩ := hSw
      go_simp
     try simp only [Act.put, z1, z2, z3, z4, z5, z6]
     refine tkI (i := 4) (v := .bool false) rfl ⟨by rfl, ?_⟩ (HS7.out _ G0.out) ?_
     ·intro w hSw
      obtain ⟨hs0, hs1⟩ := hSw
      go_simp
     try simp only [Act.put, z1, z2, z3, z4, z5, z6]
     refine tkI (i := 5) (v := .bool false) rfl ⟨by rfl, ?_⟩ (HS7.out _ G0.out) ?_
     ·intro w hSw
      obtain ⟨hs0, hs1⟩ := hSw
      go_simp
     try simp only [Act.put, z1, z2, z3, z4, z5, z6]
     refine tkU (i := 6) rfl (by rfl) (HS7.out _ G0.out) ?_
     try simp only [Act.put, z1, z2, z3, z4, z5, z6]
     refine tkU (i := 7) rfl (by rfl) (HS7.out _ G0.out) ?_
     try simp only [Act.put, z1, z2, z3, z4, z5, z6]
     refine tkU (i := 8) rfl (by rfl) (HS7.out _ G0.out) ?_
     try simp only [Act.put, z1, z2, z3, z4, z5, z6]
     refine tkU (i := 9) rfl (by rfl) (HS7.out _ G0.out) ?_
     try simp only [Act.put, z1, z2, z3, z4, z5, z6]
     refine tkU (i := 10) rfl (by rfl) (HS7.out _ G0.out) ?_
     try simp only [Act.put, z1, z2, z3, z4, z5, z6]
     refine tkU (i := 11) rfl (by rfl) (HS7.out _ G0.out) ?_
     try simp only [Act.put, z1, z2, z3, z4, z5, z6]
     refine tkU (i := 12) rfl (by rfl) (HS7.out _ G0.out) ?_
     try simp only [Act.put, z1, z2, z3, z4, z5, z6]
     refine tkU (i := 13) rfl (by rfl) (HS7.out _ G0.out) ?_
     try simp only [Act.put, z1, z2, z3, z4, z5, z6]
     refine tkU (i := 14) rfl (by rfl) (HS7.out _ G0.out) ?_
     try simp only [Act.put, z1, z2, z3, z4, z5, z6]
     refine tkU (i := 15) rfl (by rfl) (HS7.out _ G0.out) ?_
     try simp only [Act.put, z1, z2, z3, z4, z5, z6]
     refine tkI (i := 16) (v := .bool false) rfl ⟨by rfl, ?_⟩ (HS7.out _ G0.out) ?_
     ·intro w hSw
      obtain ⟨hs0, hs1⟩ := hSw
      go_simp
     try simp only [Act.put, z1, z2, z3, z4, z5, z6]
     refine tkI (i := 17) (v := .bool false) rfl ⟨by rfl, ?_⟩ (HS7.out _ G0.out) ?_
     ·intro w hSw
      obtain ⟨hs0, hs1⟩ := hSw
      go_simp
     try simp only [Act.put, z1, z2, z3, z4, z5, z6]
     refine ⟨by kernel_rfl, ?_⟩
     refine NoPanic.normal ?_
     go_wp2_with fail
     go_roundw
     case rel => exact ⟨k + 1, g, by omega, by go_num, rfl, HQ.out _ G0.out⟩
     case measure => simp [intOf]; omega
  ·obtain rfl : m = k := by omega
   have htk : l.take m = l := List.take_of_length_le (by rw [HM.out]; exact Nat.le_refl _)
   rw [htk] at HR
   clear hfr hb htk c1 c3
   go_upto_region 10 with (fail)
   have hww : Below wr.heap.size wr wr := Below.refl _ _
   go_loopw [9] (fun u9 wq => ∃ k : Nat, k ≤ n + 1 ∧ u9 = .int .i64 k ∧ FRat w.heap.size wq g n (fun j => (∃ p ∈ l, TP x p j) ∧ (j < k → lbJ x j = s)) ∧ Below w.heap.size w wq) (fun u9 _ => n + 2 - (intOf u9).toNat)
   case atStart => exact ⟨0, Nat.zero_le _, rfl, HR.out.1.ext (fun j _ => ⟨fun h => ⟨h, fun h => by omega⟩, fun h => h.1⟩), HR.out.2⟩
   case round =>
    clear HR c0 hww
    obtain ⟨k, hkn, rfl, hfr, hb⟩ := hrel
    have HR := Lib.hid (And.intro hfr hb)
    by_cases hlt : k ≤ n
    ·have hk1 : k < n + 1 := by omega
     have hk2 : (k : Int) < (n : Int) + 1 := by omega
     obtain ⟨c0, -, -⟩ := HC.out _ hb
     obtain ⟨ad, rfl, q⟩ := HLAB.out _ hb k (by rw [HNN.out]; exact hlt)
     have d0 := hfr.flag hlt
     have d1 := hfr.frozen k
     have HNX := Lib.hid (show ∀ (b : Bool), (b = true ↔ ((∃ p ∈ l, TP x p k) ∧ lbJ x k = s)) → FRat w.heap.size (wr.setCell ⟨g, k, none⟩ (.bool b)) g n (fun j => (∃ p ∈ l, TP x p j) ∧ (j < k + 1 → lbJ x j = s)) ∧ Below w.heap.size w (wr.setCell ⟨g, k, none⟩ (.bool b)) from fun b hbb =>
      ⟨hfr.set hlt b (hbb.trans ⟨fun h => ⟨h.1, fun _ => h.2⟩, fun h => ⟨h.1, h.2 (Nat.lt_succ_self _)⟩⟩) (fun j' _ hne => ⟨fun h => ⟨h.1, fun h1 => h.2 (by omega)⟩, fun h => ⟨h.1, fun h1 => h.2 (by omega)⟩⟩), hb.setCell hfr.hb _⟩)
     have hold : pB ((∃ p ∈ l, TP x p k) ∧ (k < k → lbJ x k = s)) = pB (∃ p ∈ l, TP x p k) := pB_congr ⟨fun h => h.1, fun h => ⟨h, fun h => by omega⟩⟩
     rw [hold] at d0
     obtain ⟨b, hbb⟩ : ∃ b, pB (∃ p ∈ l, TP x p k) = b := ⟨_, rfl⟩
     rw [hbb] at d0
     have HBB := Lib.hid hbb
     obtain ⟨t, ht⟩ : ∃ t, lbJ x k = t := ⟨_, rfl⟩
     rw [ht] at q
     have HT := Lib.hid ht
     clear hfr hb hbb ht hold
     cases b with
     | false =>
      go_wp2_with fail
      go_roundw
      case rel => exact ⟨k + 1, by omega, by go_num, HNX.out false ⟨fun h => (by cases h), fun h => by have := HBB.out; rw [pB_iff.2 h.1] at this; cases this⟩⟩
      case measure => simp [intOf]; omega
     | true =>
      by_cases hts : t = s
      ·subst hts
       go_wp2_with fail
       go_roundw
       case rel => exact ⟨k + 1, by omega, by go_num, HNX.out true ⟨fun _ => ⟨pB_iff.1 HBB.out, HT.out⟩, fun _ => rfl⟩⟩
       case measure => simp [intOf]; omega
      ·have hne := str_ne hts
       have HTS := Lib.hid hts
       clear hts
       go_wp2_with fail
       go_roundw
       case rel => exact ⟨k + 1, by omega, by go_num, HNX.out false ⟨fun h => (by cases h), fun h => absurd (HT.out.symm.trans h.2) HTS.out⟩⟩
       case measure => simp [intOf]; omega
    ·obtain rfl : k = n + 1 := by omega
     have hki : ¬ (n : Int) + 1 < (n : Int) + 1 := by omega
     have HSET := Lib.hid (set23_any (n := n) (P := fun j => (∃ p ∈ l, TP x p j) ∧ lbJ x j = s) (by omega) ⟨g, rfl, hfr.ext (fun j hj => ⟨fun h => ⟨h.1, h.2 (by omega)⟩, fun h => ⟨h.1, fun _ => h.2⟩⟩)⟩)
     unfold ListQ at HSET
     clear hfr hb
     go_wp2_with (go_at_call 23; refine HSET.out.mono ?_; rintro e w2 ⟨v, rfl, hr, hb⟩; have HO := Lib.hid (And.intro hr hb); clear hr hb)
     go_ret
     exact ⟨_, rfl, own_low HO.out.1 HR.out.2.size, HR.out.2.trans (HO.out.2.mono HR.out.2.size)⟩
end Go.Proofs.YtnccgaanfjaimaaDoor

namespace Go.Proofs.YtnccgaanfjaimaaDoor
open Go.ChangeShapes Go.WideShapes Go.ChangeAt Go.RowKit
set_option linter.unusedVariables false
set_option linter.unusedSimpArgs false

attribute [local go_sem] Oper.semAt_some

/-- numbers that are lent: they and the marks behind them -/
structure LI (g c : Nat) (l : List Int) (W : World) : Prop where
 lt : g < W.heap.size
 cap : l.length + 12 ≤ c
 cell : ∀ j (hj : j < (l ++ mkI).length), W.cell? ⟨g, j, none⟩ = some (.int .i64 (l ++ mkI)[j])
theorem LI.bel {g c : Nat} {l : List Int} {W W' : World} (h : LI g c l W) (hb : Below W.heap.size W W') : LI g c l W' :=
 ⟨Nat.lt_of_lt_of_le h.lt hb.size, h.cap, fun j hj => (World.cell?_of_block (a := ⟨g, j, none⟩) (hb.block g h.lt)).trans (h.cell j hj)⟩
theorem LI.of {w W : World} {g c : Nat} {l : List Int} (h : W.ownsRow w.heap.size 3 1 (.slice (some ⟨g, 0, none⟩) (l.length + 12) c) (l.length + 12) ((l ++ mkI).map (Value.int .i64))) : LI g c l W := by
 rcases h.2 with ⟨he, _⟩ | ⟨g', cap, cur, he, hb, hg, h1, h2, h3, h4⟩
 ·cases he
 ·injection he with e1 e2 e3
  injection e1 with e1
  injection e1 with e1
  subst e1 e3
  exact ⟨(Array.getElem?_eq_some_iff.1 hg).1, h1, fun j hj => by have := h.cells (g := g) rfl j (.int .i64 (l ++ mkI)[j]) (by rw [List.getElem?_map, List.getElem?_eq_getElem hj]; rfl); rw [at_zero] at this; exact this⟩
theorem LI.ir {g c : Nat} {l : List Int} {W : World} (h : LI g c l W) : IR W (.slice (some ⟨g, 0, none⟩) l.length c) l :=
 ⟨_, c, rfl, fun _ => ⟨⟨g, 0, none⟩, rfl, h.lt, fun k hk => by
  rw [at_zero]
  have := h.cell k (by rw [List.length_append]; omega)
  rwa [List.getElem_append_left hk] at this⟩⟩
theorem LI.kept {g c : Nat} {l : List Int} {W : World} {v : Value} (h : LI g c l W) (hv : IR W v l) (hl : l.length ≤ 900) :
  Calls Tryd.prog 31 #[.slice (some ⟨g, 0, none⟩) l.length c, v] W fun e w' => e = .returned (.bool true) ∧ Below W.heap.size W w' :=
 keptI_any (B := W.heap.size) (fun W' hb => (h.bel hb).cell) h.cap hv (Nat.le_refl _) hl
/-- texts that are lent -/
structure LT (g c : Nat) (l : Wd) (W : World) : Prop where
 lt : g < W.heap.size
 cap : l.length + 12 ≤ c
 cell : ∀ j (hj : j < (l ++ mks).length), W.cell? ⟨g, j, none⟩ = some (.string (l ++ mks)[j])
theorem LT.bel {g c : Nat} {l : Wd} {W W' : World} (h : LT g c l W) (hb : Below W.heap.size W W') : LT g c l W' :=
 ⟨Nat.lt_of_lt_of_le h.lt hb.size, h.cap, fun j hj => (World.cell?_of_block (a := ⟨g, j, none⟩) (hb.block g h.lt)).trans (h.cell j hj)⟩
theorem LT.of {w W : World} {g c : Nat} {l : Wd} (h : W.ownsRow w.heap.size 9 1 (.slice (some ⟨g, 0, none⟩) (l.length + 12) c) (l.length + 12) ((l ++ mks).map Value.string)) : LT g c l W := by
 rcases h.2 with ⟨he, _⟩ | ⟨g', cap, cur, he, hb, hg, h1, h2, h3, h4⟩
 ·cases he
 ·injection he with e1 e2 e3
  injection e1 with e1
  injection e1 with e1
  subst e1 e3
  exact ⟨(Array.getElem?_eq_some_iff.1 hg).1, h1, fun j hj => by have := h.cells (g := g) rfl j (.string (l ++ mks)[j]) (by rw [List.getElem?_map, List.getElem?_eq_getElem hj]; rfl); rw [at_zero] at this; exact this⟩
theorem LT.sr {g c : Nat} {l : Wd} {W : World} (h : LT g c l W) : SR W.heap.size W (.slice (some ⟨g, 0, none⟩) l.length c) l :=
 ⟨_, c, rfl, fun _ => ⟨⟨g, 0, none⟩, rfl, h.lt, fun k hk => by
  rw [at_zero]
  have := h.cell k (by rw [List.length_append]; omega)
  rwa [List.getElem_append_left hk] at this⟩⟩
theorem LT.kept {N g c : Nat} {l : Wd} {W : World} {v : Value} (h : LT g c l W) (hv : SR N W v l) (hN : N ≤ W.heap.size) (hl : l.length ≤ 900) :
  Calls Tryd.prog 32 #[.slice (some ⟨g, 0, none⟩) l.length c, v] W fun e w' => e = .returned (.bool true) ∧ Below W.heap.size W w' :=
 keptT_any (B := W.heap.size) (fun W' hb => (h.bel hb).cell) h.cap hv hN (Nat.le_refl _) hl

/-- the given expression in its box, both Nfas -/
structure SQ (M : Nat) (w W : World) (x : X) (n c : Nat) (A : Option Addr) (BN N R M' B' : Nat) : Prop where
 wp : Wp M w x n c A W
 nf : NfX W BN N x
 rf : RefX M' B' W R x
 hm : M' ≤ W.heap.size
theorem SQ.bel {M : Nat} {w W W' : World} {x : X} {n c : Nat} {A : Option Addr} {BN N R M' B' : Nat} (h : SQ M w W x n c A BN N R M' B') (hM : M ≤ w.heap.size) (hb : Below W.heap.size W W') : SQ M w W' x n c A BN N R M' B' :=
 ⟨h.wp.bel hM hb, h.nf.bel hb, h.rf.bel h.hm hb, Nat.le_trans h.hm hb.size⟩

set_option maxRecDepth 100000 in
set_option maxHeartbeats 8000000 in
theorem steps_any {M Kw : Nat} {w : World} {v fv wv : Value} {x : X} {l : List Int} {u : Wd} (hx : XV M w v x) (hM : M ≤ w.heap.size) (hl : x.lit) (hI : IR w fv l) (hu : SR Kw w wv u) (hK : Kw ≤ w.heap.size) (hT : Tb w) (s : ByteArray) :
  Calls Tryd.prog 4 #[v, fv, .string s, wv] w fun e w' => e = .returned (.bool true) ∧ Below w.heap.size w w' := by
 obtain ⟨kx, rfl, hr⟩ := hx
 obtain ⟨A, c, rfl⟩ := hr.form
 have Q0 := Lib.hid (Wp.new ⟨_, rfl, hr⟩ hM hT)
 have HL := Lib.hid hl
 have HI := Lib.hid (fun W (h : Below w.heap.size w W) => hI.bel h)
 have HU := Lib.hid (fun W (h : Below w.heap.size w W) => hu.bel (h.mono hK))
 obtain ⟨Af, cf, rfl, -⟩ := hI
 obtain ⟨Aw, cw, rfl, -⟩ := hu
 obtain ⟨n, hn⟩ : ∃ n, x.kids.length = n := ⟨_, rfl⟩
 rw [hn] at Q0 ⊢
 have hM0 : M ≤ w.heap.size := hM
 clear hr hl hT hn
 by_cases hsz : (300 : Int) < (szD 61 x : Int)
 ·have hd : decide ((300 : Int) < (szD 61 x : Int)) = true := decide_eq_true hsz
  go_enter Tryd.func4, Tryd.ntmps4
  go_wp2_with (first
   | (go_at_call 9; refine (awake_any Q1.out.tb).mono ?_; rintro e w2 ⟨rfl, hb⟩; have Q2 := Lib.hid (Q1.out.bel hM hb); clear hb)
   | (go_at_call 8; refine (size8_any Q0.out.xv (Nat.le_trans hM Q0.out.b.size)).mono ?_; rintro e w1 ⟨rfl, hb⟩; have Q1 := Lib.hid (Q0.out.bel hM hb); clear hb))
  go_ret
  exact ⟨rfl, Q2.out.b⟩
 ·have hd : decide ((300 : Int) < (szD 61 x : Int)) = false := decide_eq_false hsz
  have hsz2 : x.sz ≤ 300 := by
   have h1 := szD_eq 61 x (by omega)
   omega
  have HSZ := Lib.hid (show x.sz ≤ 100000 by omega)
  clear hsz2
  by_cases hlf : (40 : Int) < (l.length : Int)
  ·have hd2 : decide ((40 : Int) < (l.length : Int)) = true := decide_eq_true hlf
   go_enter Tryd.func4, Tryd.ntmps4
   go_wp2_with (first
    | (go_at_call 9; refine (awake_any Q1.out.tb).mono ?_; rintro e w2 ⟨rfl, hb⟩; have Q2 := Lib.hid (Q1.out.bel hM hb); clear hb)
    | (go_at_call 8; refine (size8_any Q0.out.xv (Nat.le_trans hM Q0.out.b.size)).mono ?_; rintro e w1 ⟨rfl, hb⟩; have Q1 := Lib.hid (Q0.out.bel hM hb); clear hb))
   go_ret
   exact ⟨rfl, Q2.out.b⟩
  ·have hd2 : decide ((40 : Int) < (l.length : Int)) = false := decide_eq_false hlf
   by_cases hlw : (40 : Int) < (u.length : Int)
   ·have hd3 : decide ((40 : Int) < (u.length : Int)) = true := decide_eq_true hlw
    go_enter Tryd.func4, Tryd.ntmps4
    go_wp2_with (first
     | (go_at_call 9; refine (awake_any Q1.out.tb).mono ?_; rintro e w2 ⟨rfl, hb⟩; have Q2 := Lib.hid (Q1.out.bel hM hb); clear hb)
     | (go_at_call 8; refine (size8_any Q0.out.xv (Nat.le_trans hM Q0.out.b.size)).mono ?_; rintro e w1 ⟨rfl, hb⟩; have Q1 := Lib.hid (Q0.out.bel hM hb); clear hb))
    go_ret
    exact ⟨rfl, Q2.out.b⟩
   ·have hd3 : decide ((40 : Int) < (u.length : Int)) = false := decide_eq_false hlw
    have HLF := Lib.hid (show l.length ≤ 40 by omega)
    have HLW := Lib.hid (show u.length ≤ 40 by omega)
    cases hrt : x.right with
    | false =>
     have HRT := Lib.hid hrt
     clear hrt
     go_enter Tryd.func4, Tryd.ntmps4
     go_wp2_with (first
      | (go_at_call 9; refine (awake_any Q3.out.tb).mono ?_; rintro e w4 ⟨rfl, hb⟩; have Q4 := Lib.hid (Q3.out.bel hM hb); clear hb)
      | (go_at_call 12; refine (rnew_any Q2.out.xv (Nat.le_trans hM Q2.out.b.size) HSZ.out HL.out).mono ?_; rintro e w3 ⟨hb, hnn⟩; rw [HRT.out] at hnn; rw [if_neg (by simp)] at hnn; subst hnn; have Q3 := Lib.hid (Q2.out.bel hM hb); clear hb)
      | (go_at_call 11; refine (new11_any Q1.out.xv (Nat.le_trans hM Q1.out.b.size) Q1.out.tb HL.out).mono ?_; rintro e w2 ⟨hb, hnn⟩; rw [HRT.out] at hnn; rw [if_neg (by simp)] at hnn; subst hnn; have Q2 := Lib.hid (Q1.out.bel hM hb); obtain ⟨c0, c1, c2⟩ := Q2.out.cells; clear hb)
      | (go_at_call 8; refine (size8_any Q0.out.xv (Nat.le_trans hM Q0.out.b.size)).mono ?_; rintro e w1 ⟨rfl, hb⟩; have Q1 := Lib.hid (Q0.out.bel hM hb); obtain ⟨c0, c1, c2⟩ := Q1.out.cells; clear hb))
     go_ret
     exact ⟨rfl, Q4.out.b⟩
    | true =>
     have HRT := Lib.hid hrt
     obtain ⟨hg, hs24⟩ := right_good hrt
     have HP24 := Lib.hid (show x.pn ≤ 24 from Nat.le_trans (pn_sz x) hs24)
     have HTB := Lib.hid (takes_both hrt u)
     clear hrt hg hs24
     go_enter Tryd.func4, Tryd.ntmps4
     go_upto_region 5 with (first
      | (go_at_call 12; refine (rnew_any Q2.out.1.xv (Nat.le_trans hM Q2.out.1.b.size) HSZ.out HL.out).mono ?_; rintro e w3 ⟨hb, hnn⟩; rw [HRT.out] at hnn; rw [if_pos rfl] at hnn; obtain ⟨R, rfl, hrf⟩ := hnn; have Q3 := Lib.hid (SQ.mk (Q2.out.1.bel hM hb) (Q2.out.2.bel hb) hrf hb.size); clear hb hrf)
      | (go_at_call 11; refine (new11_any Q1.out.xv (Nat.le_trans hM Q1.out.b.size) Q1.out.tb HL.out).mono ?_; rintro e w2 ⟨hb, hnn⟩; rw [HRT.out] at hnn; rw [if_pos rfl] at hnn; obtain ⟨N, rfl, hnf⟩ := hnn; have Q2 := Lib.hid (And.intro (Q1.out.bel hM hb) hnf); obtain ⟨c0, c1, c2⟩ := Q2.out.1.cells; clear hb hnf)
      | (go_at_call 8; refine (size8_any Q0.out.xv (Nat.le_trans hM Q0.out.b.size)).mono ?_; rintro e w1 ⟨rfl, hb⟩; have Q1 := Lib.hid (Q0.out.bel hM hb); obtain ⟨c0, c1, c2⟩ := Q1.out.cells; clear hb))
     clear c0 c1 c2 hd hd2 hd3 hsz hlf hlw
     obtain ⟨BN, hBN⟩ : ∃ z : Nat, w1.heap.size = z := ⟨_, rfl⟩
     obtain ⟨M', hM'⟩ : ∃ z : Nat, w2.heap.size = z := ⟨_, rfl⟩
     obtain ⟨B', hB'⟩ : ∃ z : Nat, w2.heap.size = z := ⟨_, rfl⟩
     have S0 := Lib.hid (show SQ M w w3 x n c A BN N R M' B' by rw [← hBN, ← hM', ← hB']; exact Q3.out)
     clear hBN hM' hB' Q3 Q2 Q1
     go_upto_region 8 with (first
      | (go_at_call 26; refine (lent_any _ u _ (HU.out _ S1.out.1.wp.b) (Nat.le_trans hK S1.out.1.wp.b.size) (Nat.le_trans HLW.out (by decide))).mono ?_; rintro e y2 ⟨gw, kw, rfl, ho, hb⟩; have S2 := Lib.hid (And.intro (S1.out.1.bel hM hb) (And.intro (S1.out.2.bel hb) (LT.of ho))); clear ho hb)
      | (go_at_call 25; refine (lentI_any _ l _ (HI.out _ S0.out.wp.b) (Nat.le_trans HLF.out (by decide))).mono ?_; rintro e y1 ⟨gi, ki, rfl, ho, hb⟩; have S1 := Lib.hid (And.intro (S0.out.bel hM hb) (LI.of ho)); clear ho hb))
     have HT2 := Lib.hid HTB.out
     obtain ⟨E, hE⟩ : ∃ E, takesN x u = E := ⟨_, rfl⟩
     have HE := Lib.hid hE
     clear hE
     go_wp2_with (first
      | (go_at_call 9; refine (awake_any S9.out.1.wp.tb).mono ?_; rintro e y10 ⟨rfl, hb⟩; have S10 := Lib.hid (S9.out.1.bel hM hb); clear hb)
      | (go_at_call 32; refine (S8.out.2.2.kept (HU.out _ S8.out.1.wp.b) (Nat.le_trans hK S8.out.1.wp.b.size) (Nat.le_trans HLW.out (by decide))).mono ?_; rintro e y9 ⟨rfl, hb⟩; have S9 := Lib.hid (And.intro (S8.out.1.bel hM hb) trivial); clear hb)
      | (go_at_call 31; refine (S7.out.2.1.kept (HI.out _ S7.out.1.wp.b) (Nat.le_trans HLF.out (by decide))).mono ?_; rintro e y8 ⟨rfl, hb⟩; have S8 := Lib.hid (And.intro (S7.out.1.bel hM hb) (And.intro (S7.out.2.1.bel hb) (S7.out.2.2.bel hb))); clear hb)
      | (go_at_call 30; refine (takes30_any S6.out.1.rf S6.out.1.hm HSZ.out HL.out (HU.out _ S6.out.1.wp.b) (Nat.le_trans hK S6.out.1.wp.b.size) (Nat.le_trans HLW.out (by decide))).mono ?_; rintro e y7 ⟨rfl, hb⟩; rw [HTB.out, HE.out]; have S7 := Lib.hid (And.intro (S6.out.1.bel hM hb) (And.intro (S6.out.2.1.bel hb) (S6.out.2.2.bel hb))); clear hb)
      | (go_at_call 29; refine (takes29_any S5.out.1.nf S5.out.1.wp.tb HP24.out S5.out.2.2.sr (Nat.le_refl _) (Nat.le_trans HLW.out (by decide))).mono ?_; rintro e y6 ⟨rfl, hb⟩; rw [HE.out]; have S6 := Lib.hid (And.intro (S5.out.1.bel hM hb) (And.intro (S5.out.2.1.bel hb) (S5.out.2.2.bel hb))); clear hb)
      | (go_at_call 20; refine (sameI_refl I3.out I4.out (ints_le _ (Nat.le_trans (els_len _) (by decide)))).mono ?_; rintro e y5 ⟨rfl, hb⟩; have S5 := Lib.hid (And.intro (S4.out.1.bel hM hb) (And.intro (S4.out.2.1.bel hb) (S4.out.2.2.bel hb))); clear hb)
      | (go_at_call 28; refine (step28_any S3.out.1.rf HP24.out (HI.out _ S3.out.1.wp.b) (Nat.le_trans HLF.out (by decide)) s).mono ?_; rintro e y4 ⟨v4, rfl, ho, hb⟩; have I4 := Lib.hid (ListQ.ir ho); have I3 := Lib.hid (I2.out.bel hb); have S4 := Lib.hid (And.intro (S3.out.1.bel hM hb) (And.intro (S3.out.2.1.bel hb) (S3.out.2.2.bel hb))); clear ho hb)
      | (go_at_call 27; refine (step27_any S2.out.1.nf S2.out.1.wp.tb HP24.out S2.out.2.1.ir (Nat.le_trans HLF.out (by decide)) s).mono ?_; rintro e y3 ⟨v3, rfl, ho, hb⟩; have I2 := Lib.hid (ListQ.ir ho); have S3 := Lib.hid (And.intro (S2.out.1.bel hM hb) (And.intro (S2.out.2.1.bel hb) (S2.out.2.2.bel hb))); clear ho hb))
     go_ret
     exact ⟨rfl, S10.out.wp.b⟩
end Go.Proofs.YtnccgaanfjaimaaDoor

namespace Go.Proofs.YtnccgaanfjaimaaDoor
open Go.ChangeShapes Go.WideShapes Go.ChangeAt Go.RowKit Go.Deep Go.Joins
set_option linter.unusedVariables false
set_option linter.unusedSimpArgs false

theorem cells3 : Tryd.prog.cellsOf 3 = 1 := by kernel_rfl
theorem read37 : Tryd.prog.readableRec 37 = true := by kernel_rfl
theorem lt37 : 37 < Tryd.prog.types.size := of_decide_eq_true (by kernel_rfl)
theorem bytes3 : Tryd.prog.bytesOf 3 = 8 := by kernel_rfl
set_option maxRecDepth 100000 in
theorem open_ints {H : Type} {enc : TypeId × Value → H} {w : World} {n : Nat} {V : Value} {x : DataW H × List MemPlace} (h : DataW.trod enc Tryd.prog w 0 (fun _ => true) true n 37 [V] = some x) :
  ∃ l, IR w V l ∧ (∀ A m c, V = .slice A m c → m ≤ c) ∧ ((∀ n ∈ x.1.weights Tryd.prog 37, n ≤ reachBytes) → l.length ≤ reachBytes) ∧ (∀ r ∈ l, -2 ^ 63 ≤ r ∧ r < 2 ^ 63) := by
 rcases open_slice1 Tryd.underlying37 cells3 h with ⟨hcs, hx⟩ | ⟨a, len, cap, m, n', Vs, D, Pl, hcs, _, hl, hm, hmm, rfl, hx⟩
 ·obtain rfl : V = .slice none 0 0 := by simpa using hcs
  exact ⟨[], ⟨none, 0, rfl, fun h => absurd h (by simp)⟩, fun A m c e => by injection e with _ e1 e2; omega, fun _ => Nat.zero_le _, fun r hr => by cases hr⟩
 ·obtain rfl : V = .slice (some a) len cap := by simpa using hcs
  simp only [if_true] at hmm
  subst hmm
  obtain ⟨Lf, hLf⟩ := pick_lt (α := Int) (p := fun i s => Vs i = .int .i64 s ∧ -2 ^ 63 ≤ s ∧ s < 2 ^ 63) (n := len) (fun i hi => by
   obtain ⟨s0, f0, t0, hwf⟩ := DataW.trod_int Tryd.underlying3 (hx i (by omega)).2
   injection f0 with f0
   refine ⟨s0, f0, ?_⟩
   have := (Lit.wf_int_iff _ _).1 hwf
   have e1 : IntKind.i64.min = -2 ^ 63 := by decide
   have e2 : IntKind.i64.max = 2 ^ 63 - 1 := by decide
   omega)
  have hlen : ((List.range len).map Lf).length = len := by simp
  refine ⟨(List.range len).map Lf, ⟨some a, m, by rw [hlen], fun hn => ⟨a, rfl, ?_, fun k hk => ?_⟩⟩, fun A m c e => by injection e with _ e1 e2; omega, fun hw => ?_, fun s hs => ?_⟩
  ·rw [hlen] at hn
   have := World.block_lt_of_cell? _ _ (hx 0 (by omega)).1
   rwa [block_add] at this
  ·rw [hlen] at hk
   rw [(hx k (by omega)).1, (hLf k hk).1]
   simp
  ·have h1 := hw (((List.map D (List.range len)).length + (List.map (fun j => D (len + j)) (List.range (m - len))).length) * Tryd.prog.bytesOf 3) (by simp [DataW.weights, Tryd.underlying37])
   rw [bytes3] at h1
   simp at h1
   rw [hlen]
   omega
  ·obtain ⟨i, hi, rfl⟩ := List.mem_map.1 hs
   rw [List.mem_range] at hi
   exact (hLf i hi).2
end Go.Proofs.YtnccgaanfjaimaaDoor
