/- Texts KK, QM, one behind the other. -/
import Derived.Test.YtnccgaanfjaimaaDoorJ15
import Derived.Test.YtnccgaanfjaimaaDoorJ16
set_option linter.unusedSimpArgs false
set_option linter.unusedVariables false
namespace Go.Proofs.YtnccgaanfjaimaaDoor
open Go.ChangeShapes Go.WideShapes Go.ChangeAt Go.RowKit
set_option linter.unusedVariables false
set_option linter.unusedSimpArgs false

attribute [local go_sem] Oper.semAt_some

theorem LR.kid {q : Nat → Prop} {w : World} {g n c : Nat} {xs : List X} (h : LR q w (.slice (some ⟨g, 0, none⟩) n c) xs) {i : Nat} (hi : i < xs.length) :
  ∃ kv, (w.cell? ⟨g, i * 3, none⟩ = some (.int .i64 xs[i].kind) ∧ w.cell? ⟨g, i * 3 + 1, none⟩ = some (.string xs[i].lab) ∧ w.cell? ⟨g, i * 3 + 2, none⟩ = some kv) ∧ LR q w kv xs[i].kids := by
 cases h with
 | mk g c ps hq hc hcell hk =>
  have hi2 : i < ps.length := by simpa using hi
  obtain ⟨h0, h1, h2⟩ := flatP_at (ps ++ mkps) i (by rw [List.length_append]; omega)
  rw [List.getElem_append_left hi2] at h0 h1 h2
  refine ⟨ps[i].2, ⟨?_, ?_, hcell _ _ h2⟩, ?_⟩
  ·rw [List.getElem_map]; exact hcell _ _ h0
  ·rw [List.getElem_map]; exact hcell _ _ h1
  ·rw [List.getElem_map]; exact hk _ (List.getElem_mem _)
theorem LR.mark {q : Nat → Prop} {w : World} {g n c : Nat} {xs : List X} (h : LR q w (.slice (some ⟨g, 0, none⟩) n c) xs) {j : Nat} (hj : j < 12) :
  w.cell? ⟨g, (n + j) * 3, none⟩ = some (.int .i64 (8000024 + j)) ∧ w.cell? ⟨g, (n + j) * 3 + 1, none⟩ = some (.string ⟨#[]⟩) ∧ w.cell? ⟨g, (n + j) * 3 + 2, none⟩ = some (.slice none 0 0) := by
 cases h with
 | mk g c ps hq hc hcell hk =>
  obtain ⟨h0, h1, h2⟩ := flatP_at (ps ++ mkps) (ps.length + j) (by rw [List.length_append, mkps_len]; omega)
  have e : (ps ++ mkps)[ps.length + j]'(by rw [List.length_append, mkps_len]; omega) = (mX j, .slice none 0 0) := by
   rw [List.getElem_append_right (by omega)]
   simp only [Nat.add_sub_cancel_left]
   exact mkps_get j (by rw [mkps_len]; omega)
  rw [e] at h0 h1 h2
  exact ⟨hcell _ _ h0, hcell _ _ h1, hcell _ _ h2⟩
theorem LR.len {q : Nat → Prop} {w : World} {g n c : Nat} {xs : List X} (h : LR q w (.slice (some ⟨g, 0, none⟩) n c) xs) : n = xs.length := by
 cases h with
 | mk g c ps hq hc hcell hk => simp

theorem calls_bool2 {f : FuncId} {args : Array Value} {W0 W : World} {r r' : Bool} (h : Calls Tryd.prog f args W fun e w' => e = .returned (.bool r) ∧ Below W.heap.size W w') (hb : Below W0.heap.size W0 W) (e : r = r') :
  Calls Tryd.prog f args W fun e w' => e = .returned (.bool r') ∧ Below W0.heap.size W0 w' := by
 subst e
 exact calls_base h hb
def K25 (x : X) : Prop := ∀ (q : Nat → Prop) (N : Nat) (w : World) (kv v : Value), LR q w kv x.kids → (∀ b, q b → b < w.heap.size) → XV N w v x → N ≤ w.heap.size → Calls Tryd.prog 13 #[.agg #[.int .i64 x.kind, .string x.lab, kv], v] w fun e w' => e = .returned (.bool true) ∧ Below w.heap.size w w'

set_option maxRecDepth 100000 in
set_option maxHeartbeats 4000000 in
theorem kept45_any {xs : List X} (hxs : ∀ x ∈ xs, K25 x) (hl : xs.length ≤ 100000) {p : Nat → Prop} {N : Nat} {w : World} {v v' : Value} (hv : LR p w v xs) (hp : ∀ b, p b → b < w.heap.size) (hx : XR N w v' xs) (hN : N ≤ w.heap.size) :
  Calls Tryd.prog 51 #[v, v'] w fun e w' => e = .returned (.bool true) ∧ Below w.heap.size w w' := by
 have HV := Lib.hid (fun W (h : Below w.heap.size w W) => hv.keep (q' := p) (fun b hb => h.block b (hp b hb)) (fun b hb => hb))
 have HX := Lib.hid (fun W (h : Below w.heap.size w W) => hx.bel (h.mono hN))
 have HP := Lib.hid hp
 have HXS := Lib.hid hxs
 have HNW := Lib.hid hN
 obtain ⟨A, cl, rfl⟩ := hx.form
 obtain ⟨g, c, rfl, _, hcap⟩ := hv.form
 obtain ⟨n, hn⟩ : ∃ n, xs.length = n := ⟨_, rfl⟩
 have HN := Lib.hid hn
 rw [hn] at hcap hl HV HX ⊢
 obtain ⟨q, hq⟩ : ∃ q, q = n + 12 := ⟨_, rfl⟩
 have HQ := Lib.hid hq
 have hnat : ((n : Int) + 12).toNat = q := by omega
 have hci : (n : Int) + 12 ≤ (c : Int) := by omega
 have hqc : q ≤ c := by omega
 have hq9 : q ≤ 100012 := by omega
 have hqi : (n : Int) + 12 = (q : Int) := by omega
 clear hn hq hv hx hxs hN hp
 go_enter Tryd.func51, Tryd.ntmps51
 go_upto_region 5 with (fail)
 clear hnat hci
 go_loopw [6] (fun i wr => ∃ k : Nat, k ≤ q ∧ i = .int .i64 k ∧ Below w.heap.size w wr) (fun i _ => q + 1 - (intOf i).toNat)
 case atStart => exact ⟨0, Nat.zero_le _, rfl, Below.refl _ _⟩
 case round =>
  obtain ⟨k, hk, rfl, hbe⟩ := hrel
  have HBE := Lib.hid hbe
  by_cases hlt : k < q
  ·have hk0 : (0 : Int) ≤ (k : Int) := by omega
   have hkq : (k : Int) < (q : Int) := by omega
   have hkqn : ¬ (q ≤ k) := by omega
   go_upto_region 7 with (fail)
   have G0 := Lib.hid (Below.refl wr.heap.size wr).drew
   have hlr := fun W (h : Below wr.heap.size wr W) => HV.out W (hbe.trans (h.mono hbe.size))
   by_cases hkn : k < n
   ·have hkl : k < xs.length := by have := HN.out; omega
    obtain ⟨ad, kl, e1, hbA, a0, a1, a2, hkl2⟩ := (HX.out wr hbe).at3 hkl
    subst e1
    obtain ⟨ko, ⟨b0, b1, b2⟩, hko⟩ := (hlr wr (Below.refl _ _)).kid hkl
    have hy25 := HXS.out xs[k] (List.getElem_mem _)
    have hgp := HP.out
    have hgw : g < w.heap.size := by
     have h1 := (HV.out wr hbe).form
     obtain ⟨g', c', e, hg', _⟩ := h1
     injection e with e
     injection e with e
     injection e with e
     subst e
     exact HP.out _ hg'
    obtain ⟨y, hy⟩ : ∃ y, xs[k] = y := ⟨_, rfl⟩
    rw [hy] at a0 a1 hkl2 hy25 b0 b1 hko
    have HCALL := Lib.hid (fun W (h : Below wr.heap.size wr W) => calls_base (hy25 p N W ko _ (hko.keep (q' := p) (fun b hb => h.block b (Nat.lt_of_lt_of_le (HP.out b hb) hbe.size)) (fun b hb => hb)) (fun b hb => Nat.lt_of_lt_of_le (HP.out b hb) (Nat.le_trans hbe.size h.size)) ⟨kl, rfl, hkl2.bel (h.mono (Nat.le_trans HNW.out hbe.size))⟩ (Nat.le_trans HNW.out (Nat.le_trans hbe.size h.size))) h)
    have hgr : g < wr.heap.size := Nat.lt_of_lt_of_le hgw hbe.size
    have har : ad.block < wr.heap.size := Nat.lt_of_lt_of_le hbA (Nat.le_trans HNW.out hbe.size)
    have HS := Lib.hid (fun W (h : Below wr.heap.size wr W) => And.intro (And.intro ((World.cell?_of_block (a := ⟨g, k * 3, none⟩) (h.block _ hgr)).trans b0) (And.intro ((World.cell?_of_block (a := ⟨g, k * 3 + 1, none⟩) (h.block _ hgr)).trans b1) ((World.cell?_of_block (a := ⟨g, k * 3 + 2, none⟩) (h.block _ hgr)).trans b2)))
     (And.intro ((World.cell?_of_block (h.block _ (by rw [block_add]; exact har))).trans a0) (And.intro ((World.cell?_of_block (h.block _ (by show (ad.add (k * 3)).block < _; rw [block_add]; exact har))).trans a1) ((World.cell?_of_block (h.block _ (by show (ad.add (k * 3)).block < _; rw [block_add]; exact har))).trans a2))))
    obtain ⟨yk, hyk⟩ : ∃ yk, y.kind = yk := ⟨_, rfl⟩
    obtain ⟨yl, hyl⟩ : ∃ yl, y.lab = yl := ⟨_, rfl⟩
    rw [hyk, hyl] at HS HCALL
    have hkni : (k : Int) < (n : Int) := by omega
    have hkni2 : ¬ (n : Int) ≤ (k : Int) := by omega
    clear a0 a1 a2 b0 b1 b2 hkl2 hko hy25 hgp hgw hgr har hyk hyl hbe hlr hy HV HX HXS HP HQ hcap hl hbA hkl
    refine wp_region_noPanic ?_
    refine wp_region_held_drew (S := fun W => ((W.cell? ⟨g, k * 3, none⟩ = some (.int .i64 yk) ∧ W.cell? ⟨g, k * 3 + 1, none⟩ = some (.string yl) ∧ W.cell? ⟨g, k * 3 + 2, none⟩ = some ko) ∧ W.cell? (ad.add (k * 3)) = some (.int .i64 yk) ∧ W.cell? ⟨(ad.add (k * 3)).block, (ad.add (k * 3)).off + 1, none⟩ = some (.string yl) ∧ W.cell? ⟨(ad.add (k * 3)).block, (ad.add (k * 3)).off + 2, none⟩ = some kl)) (by kernel_rfl) (HS.out _ G0.out) (fun hHeld => ?_)
    clear hHeld
    refine tkI (i := 0) (v := .int .i64 k) rfl ⟨by rfl, ?_⟩ (HS.out _ G0.out) ?_
    ·intro w hSw
     obtain ⟨⟨hs0, hs1, hs2⟩, hs3, hs4, hs5⟩ := hSw
     go_simp
    try simp only [Act.put, z1, z2, z3, z4, z5, z6]
    refine tkI (i := 1) (v := .slice (some ad) n cl) rfl ⟨by rfl, ?_⟩ (HS.out _ G0.out) ?_
    ·intro w hSw
     obtain ⟨⟨hs0, hs1, hs2⟩, hs3, hs4, hs5⟩ := hSw
     go_simp
    try simp only [Act.put, z1, z2, z3, z4, z5, z6]
    refine tkI (i := 2) (v := .int .i64 n) rfl ⟨by rfl, ?_⟩ (HS.out _ G0.out) ?_
    ·intro w hSw
     obtain ⟨⟨hs0, hs1, hs2⟩, hs3, hs4, hs5⟩ := hSw
     go_simp
    try simp only [Act.put, z1, z2, z3, z4, z5, z6]
    refine tkI (i := 3) (v := .bool true) rfl ⟨by rfl, ?_⟩ (HS.out _ G0.out) ?_
    ·intro w hSw
     obtain ⟨⟨hs0, hs1, hs2⟩, hs3, hs4, hs5⟩ := hSw
     go_simp
    try simp only [Act.put, z1, z2, z3, z4, z5, z6]
    refine tkI (i := 4) (v := .bool true) rfl ⟨by rfl, ?_⟩ (HS.out _ G0.out) ?_
    ·intro w hSw
     obtain ⟨⟨hs0, hs1, hs2⟩, hs3, hs4, hs5⟩ := hSw
     go_simp
    try simp only [Act.put, z1, z2, z3, z4, z5, z6]
    refine tkI (i := 5) (v := .slice (some ⟨g, 0, none⟩) q c) rfl ⟨by rfl, ?_⟩ (HS.out _ G0.out) ?_
    ·intro w hSw
     obtain ⟨⟨hs0, hs1, hs2⟩, hs3, hs4, hs5⟩ := hSw
     go_simp
    try simp only [Act.put, z1, z2, z3, z4, z5, z6]
    refine tkI (i := 6) (v := .int .i64 k) rfl ⟨by rfl, ?_⟩ (HS.out _ G0.out) ?_
    ·intro w hSw
     obtain ⟨⟨hs0, hs1, hs2⟩, hs3, hs4, hs5⟩ := hSw
     go_simp
    try simp only [Act.put, z1, z2, z3, z4, z5, z6]
    refine tkI (i := 7) (v := .pointer (some ⟨g, k * 3, none⟩)) rfl ⟨by rfl, ?_⟩ (HS.out _ G0.out) ?_
    ·intro w hSw
     obtain ⟨⟨hs0, hs1, hs2⟩, hs3, hs4, hs5⟩ := hSw
     go_simp
    try simp only [Act.put, z1, z2, z3, z4, z5, z6]
    refine tkI (i := 8) (v := .agg #[.int .i64 yk, .string yl, ko]) rfl ⟨by rfl, ?_⟩ (HS.out _ G0.out) ?_
    ·intro w hSw
     obtain ⟨⟨hs0, hs1, hs2⟩, hs3, hs4, hs5⟩ := hSw
     go_simp
    try simp only [Act.put, z1, z2, z3, z4, z5, z6]
    refine tkI (i := 9) (v := .slice (some ad) n cl) rfl ⟨by rfl, ?_⟩ (HS.out _ G0.out) ?_
    ·intro w hSw
     obtain ⟨⟨hs0, hs1, hs2⟩, hs3, hs4, hs5⟩ := hSw
     go_simp
    try simp only [Act.put, z1, z2, z3, z4, z5, z6]
    refine tkI (i := 10) (v := .int .i64 k) rfl ⟨by rfl, ?_⟩ (HS.out _ G0.out) ?_
    ·intro w hSw
     obtain ⟨⟨hs0, hs1, hs2⟩, hs3, hs4, hs5⟩ := hSw
     go_simp
    try simp only [Act.put, z1, z2, z3, z4, z5, z6]
    refine tkI (i := 11) (v := .pointer (some (ad.add (k * 3)))) rfl ⟨by rfl, ?_⟩ (HS.out _ G0.out) ?_
    ·intro w hSw
     obtain ⟨⟨hs0, hs1, hs2⟩, hs3, hs4, hs5⟩ := hSw
     go_simp
    try simp only [Act.put, z1, z2, z3, z4, z5, z6]
    refine tkI (i := 12) (v := .agg #[.int .i64 yk, .string yl, kl]) rfl ⟨by rfl, ?_⟩ (HS.out _ G0.out) ?_
    ·intro w hSw
     obtain ⟨⟨hs0, hs1, hs2⟩, hs3, hs4, hs5⟩ := hSw
     go_simp
    try simp only [Act.put, z1, z2, z3, z4, z5, z6]
    refine wpAnyH_ready (rs := [13]) (by kernel_rfl) (by simp) ?_
    refine AllReadyH.cons rfl (fun K hK => ?_) AllReadyH.nil
    go_simp
    refine (HCALL.out _ G0.out).mono ?_
    rintro e y1 ⟨rfl, hq⟩
    have G1 := Lib.hid hq
    clear hq
    refine hK.out _ _ (HS.out _ G1.out) (fun _ => ?_)
    clear hK
    try simp only [Act.put, z1, z2, z3, z4, z5, z6]
    refine tkI (i := 14) (v := .bool false) rfl ⟨by rfl, ?_⟩ (HS.out _ G1.out) ?_
    ·intro w hSw
     obtain ⟨⟨hs0, hs1, hs2⟩, hs3, hs4, hs5⟩ := hSw
     go_simp
    try simp only [Act.put, z1, z2, z3, z4, z5, z6]
    refine tkI (i := 15) (v := .bool false) rfl ⟨by rfl, ?_⟩ (HS.out _ G1.out) ?_
    ·intro w hSw
     obtain ⟨⟨hs0, hs1, hs2⟩, hs3, hs4, hs5⟩ := hSw
     go_simp
    try simp only [Act.put, z1, z2, z3, z4, z5, z6]
    refine tkI (i := 16) (v := .bool false) rfl ⟨by rfl, ?_⟩ (HS.out _ G1.out) ?_
    ·intro w hSw
     obtain ⟨⟨hs0, hs1, hs2⟩, hs3, hs4, hs5⟩ := hSw
     go_simp
    try simp only [Act.put, z1, z2, z3, z4, z5, z6]
    refine tkI (i := 17) (v := .int .i64 k) rfl ⟨by rfl, ?_⟩ (HS.out _ G1.out) ?_
    ·intro w hSw
     obtain ⟨⟨hs0, hs1, hs2⟩, hs3, hs4, hs5⟩ := hSw
     go_simp
    try simp only [Act.put, z1, z2, z3, z4, z5, z6]
    refine tkI (i := 18) (v := .slice (some ad) n cl) rfl ⟨by rfl, ?_⟩ (HS.out _ G1.out) ?_
    ·intro w hSw
     obtain ⟨⟨hs0, hs1, hs2⟩, hs3, hs4, hs5⟩ := hSw
     go_simp
    try simp only [Act.put, z1, z2, z3, z4, z5, z6]
    refine tkI (i := 19) (v := .int .i64 n) rfl ⟨by rfl, ?_⟩ (HS.out _ G1.out) ?_
    ·intro w hSw
     obtain ⟨⟨hs0, hs1, hs2⟩, hs3, hs4, hs5⟩ := hSw
     go_simp
    try simp only [Act.put, z1, z2, z3, z4, z5, z6]
    refine tkI (i := 20) (v := .bool false) rfl ⟨by rfl, ?_⟩ (HS.out _ G1.out) ?_
    ·intro w hSw
     obtain ⟨⟨hs0, hs1, hs2⟩, hs3, hs4, hs5⟩ := hSw
     go_simp
    try simp only [Act.put, z1, z2, z3, z4, z5, z6]
    refine tkI (i := 21) (v := .bool false) rfl ⟨by rfl, ?_⟩ (HS.out _ G1.out) ?_
    ·intro w hSw
     obtain ⟨⟨hs0, hs1, hs2⟩, hs3, hs4, hs5⟩ := hSw
     go_simp
    try simp only [Act.put, z1, z2, z3, z4, z5, z6]
    refine tkU (i := 22) rfl (by rfl) (HS.out _ G1.out) ?_
    try simp only [Act.put, z1, z2, z3, z4, z5, z6]
    refine tkU (i := 23) rfl (by rfl) (HS.out _ G1.out) ?_
    try simp only [Act.put, z1, z2, z3, z4, z5, z6]
    refine tkU (i := 24) rfl (by rfl) (HS.out _ G1.out) ?_
    try simp only [Act.put, z1, z2, z3, z4, z5, z6]
    refine tkU (i := 25) rfl (by rfl) (HS.out _ G1.out) ?_
    try simp only [Act.put, z1, z2, z3, z4, z5, z6]
    refine tkU (i := 26) rfl (by rfl) (HS.out _ G1.out) ?_
    try simp only [Act.put, z1, z2, z3, z4, z5, z6]
    refine tkU (i := 27) rfl (by rfl) (HS.out _ G1.out) ?_
    try simp only [Act.put, z1, z2, z3, z4, z5, z6]
    refine tkU (i := 28) rfl (by rfl) (HS.out _ G1.out) ?_
    try simp only [Act.put, z1, z2, z3, z4, z5, z6]
    refine tkU (i := 29) rfl (by rfl) (HS.out _ G1.out) ?_
    try simp only [Act.put, z1, z2, z3, z4, z5, z6]
    refine tkU (i := 30) rfl (by rfl) (HS.out _ G1.out) ?_
    try simp only [Act.put, z1, z2, z3, z4, z5, z6]
    refine tkU (i := 31) rfl (by rfl) (HS.out _ G1.out) ?_
    try simp only [Act.put, z1, z2, z3, z4, z5, z6]
    refine tkU (i := 32) rfl (by rfl) (HS.out _ G1.out) ?_
    try simp only [Act.put, z1, z2, z3, z4, z5, z6]
    refine tkI (i := 33) (v := .bool false) rfl ⟨by rfl, ?_⟩ (HS.out _ G1.out) ?_
    ·intro w hSw
     obtain ⟨⟨hs0, hs1, hs2⟩, hs3, hs4, hs5⟩ := hSw
     go_simp
    try simp only [Act.put, z1, z2, z3, z4, z5, z6]
    refine tkI (i := 34) (v := .bool false) rfl ⟨by rfl, ?_⟩ (HS.out _ G1.out) ?_
    ·intro w hSw
     obtain ⟨⟨hs0, hs1, hs2⟩, hs3, hs4, hs5⟩ := hSw
     go_simp
    try simp only [Act.put, z1, z2, z3, z4, z5, z6]
    refine ⟨by kernel_rfl, ?_⟩
    refine NoPanic.normal ?_
    go_wp2_with fail
    go_roundw
    case rel => exact ⟨k + 1, by omega, by go_num, HBE.out.trans (G1.out.mono HBE.out.size)⟩
    case measure => simp [intOf]; omega
   ·obtain ⟨j, hj⟩ : ∃ j : Nat, j = k - n := ⟨_, rfl⟩
    have hsub : (k : Int) - (n : Int) = (j : Int) := by omega
    have hj12 : j < 12 := by have := HQ.out; omega
    have hwr : IntKind.i64.wrap (j : Int) = (j : Int) := IntWalk.i64_in _ ⟨by omega, by omega⟩
    have hnk : n + j = k := by omega
    have HMK := Lib.hid (fun W => markExpr_any j (by omega) W)
    have HSM := Lib.hid (fun W (h : Below wr.heap.size wr W) => calls_bool2 (same30_any (mX j) (by rw [X.sz_eq]; simp [mX, X.kids, szL_nil]) (mX j) 0 W (.agg #[.int .i64 (8000024 + j), .string ⟨#[]⟩, .slice none 0 0]) (.agg #[.int .i64 (8000024 + j), .string ⟨#[]⟩, .slice none 0 0]) ⟨_, rfl, XR.nil _ _ _ _⟩ ⟨_, rfl, XR.nil _ _ _ _⟩ (Nat.zero_le _)) h (sameX_true rfl))
    have hm := fun W (h : Below wr.heap.size wr W) => (hlr W h).mark hj12
    rw [hnk] at hm
    have HS := Lib.hid hm
    obtain ⟨mk, hmk⟩ : ∃ mk : Int, (8000024 + (j : Int)) = mk := ⟨_, rfl⟩
    rw [hmk] at HS HMK HSM
    have hkni : ¬ (k : Int) < (n : Int) := by omega
    have hkni2 : (n : Int) ≤ (k : Int) := by omega
    clear hmk hm hlr hj hnk hbe HV HX HXS HP HQ hcap hl
    refine wp_region_noPanic ?_
    refine wp_region_held_drew (S := fun W => (W.cell? ⟨g, k * 3, none⟩ = some (.int .i64 mk) ∧ W.cell? ⟨g, k * 3 + 1, none⟩ = some (.string ⟨#[]⟩) ∧ W.cell? ⟨g, k * 3 + 2, none⟩ = some (.slice none 0 0))) (by kernel_rfl) (HS.out _ G0.out) (fun hHeld => ?_)
    clear hHeld
    refine tkI (i := 0) (v := .int .i64 k) rfl ⟨by rfl, ?_⟩ (HS.out _ G0.out) ?_
    ·intro w hSw
     obtain ⟨hs0, hs1, hs2⟩ := hSw
     go_simp
    try simp only [Act.put, z1, z2, z3, z4, z5, z6]
    refine tkI (i := 1) (v := .slice A n cl) rfl ⟨by rfl, ?_⟩ (HS.out _ G0.out) ?_
    ·intro w hSw
     obtain ⟨hs0, hs1, hs2⟩ := hSw
     go_simp
    try simp only [Act.put, z1, z2, z3, z4, z5, z6]
    refine tkI (i := 2) (v := .int .i64 n) rfl ⟨by rfl, ?_⟩ (HS.out _ G0.out) ?_
    ·intro w hSw
     obtain ⟨hs0, hs1, hs2⟩ := hSw
     go_simp
    try simp only [Act.put, z1, z2, z3, z4, z5, z6]
    refine tkI (i := 3) (v := .bool false) rfl ⟨by rfl, ?_⟩ (HS.out _ G0.out) ?_
    ·intro w hSw
     obtain ⟨hs0, hs1, hs2⟩ := hSw
     go_simp
    try simp only [Act.put, z1, z2, z3, z4, z5, z6]
    refine tkI (i := 4) (v := .bool false) rfl ⟨by rfl, ?_⟩ (HS.out _ G0.out) ?_
    ·intro w hSw
     obtain ⟨hs0, hs1, hs2⟩ := hSw
     go_simp
    try simp only [Act.put, z1, z2, z3, z4, z5, z6]
    refine tkU (i := 5) rfl (by rfl) (HS.out _ G0.out) ?_
    try simp only [Act.put, z1, z2, z3, z4, z5, z6]
    refine tkU (i := 6) rfl (by rfl) (HS.out _ G0.out) ?_
    try simp only [Act.put, z1, z2, z3, z4, z5, z6]
    refine tkU (i := 7) rfl (by rfl) (HS.out _ G0.out) ?_
    try simp only [Act.put, z1, z2, z3, z4, z5, z6]
    refine tkU (i := 8) rfl (by rfl) (HS.out _ G0.out) ?_
    try simp only [Act.put, z1, z2, z3, z4, z5, z6]
    refine tkU (i := 9) rfl (by rfl) (HS.out _ G0.out) ?_
    try simp only [Act.put, z1, z2, z3, z4, z5, z6]
    refine tkU (i := 10) rfl (by rfl) (HS.out _ G0.out) ?_
    try simp only [Act.put, z1, z2, z3, z4, z5, z6]
    refine tkU (i := 11) rfl (by rfl) (HS.out _ G0.out) ?_
    try simp only [Act.put, z1, z2, z3, z4, z5, z6]
    refine tkU (i := 12) rfl (by rfl) (HS.out _ G0.out) ?_
    try simp only [Act.put, z1, z2, z3, z4, z5, z6]
    refine tkU (i := 13) rfl (by rfl) (HS.out _ G0.out) ?_
    try simp only [Act.put, z1, z2, z3, z4, z5, z6]
    refine tkU (i := 14) rfl (by rfl) (HS.out _ G0.out) ?_
    try simp only [Act.put, z1, z2, z3, z4, z5, z6]
    refine tkI (i := 15) (v := .bool false) rfl ⟨by rfl, ?_⟩ (HS.out _ G0.out) ?_
    ·intro w hSw
     obtain ⟨hs0, hs1, hs2⟩ := hSw
     go_simp
    try simp only [Act.put, z1, z2, z3, z4, z5, z6]
    refine tkI (i := 16) (v := .bool false) rfl ⟨by rfl, ?_⟩ (HS.out _ G0.out) ?_
    ·intro w hSw
     obtain ⟨hs0, hs1, hs2⟩ := hSw
     go_simp
    try simp only [Act.put, z1, z2, z3, z4, z5, z6]
    refine tkI (i := 17) (v := .int .i64 k) rfl ⟨by rfl, ?_⟩ (HS.out _ G0.out) ?_
    ·intro w hSw
     obtain ⟨hs0, hs1, hs2⟩ := hSw
     go_simp
    try simp only [Act.put, z1, z2, z3, z4, z5, z6]
    refine tkI (i := 18) (v := .slice A n cl) rfl ⟨by rfl, ?_⟩ (HS.out _ G0.out) ?_
    ·intro w hSw
     obtain ⟨hs0, hs1, hs2⟩ := hSw
     go_simp
    try simp only [Act.put, z1, z2, z3, z4, z5, z6]
    refine tkI (i := 19) (v := .int .i64 n) rfl ⟨by rfl, ?_⟩ (HS.out _ G0.out) ?_
    ·intro w hSw
     obtain ⟨hs0, hs1, hs2⟩ := hSw
     go_simp
    try simp only [Act.put, z1, z2, z3, z4, z5, z6]
    refine tkI (i := 20) (v := .bool true) rfl ⟨by rfl, ?_⟩ (HS.out _ G0.out) ?_
    ·intro w hSw
     obtain ⟨hs0, hs1, hs2⟩ := hSw
     go_simp
    try simp only [Act.put, z1, z2, z3, z4, z5, z6]
    refine tkI (i := 21) (v := .bool true) rfl ⟨by rfl, ?_⟩ (HS.out _ G0.out) ?_
    ·intro w hSw
     obtain ⟨hs0, hs1, hs2⟩ := hSw
     go_simp
    try simp only [Act.put, z1, z2, z3, z4, z5, z6]
    refine tkI (i := 22) (v := .slice (some ⟨g, 0, none⟩) q c) rfl ⟨by rfl, ?_⟩ (HS.out _ G0.out) ?_
    ·intro w hSw
     obtain ⟨hs0, hs1, hs2⟩ := hSw
     go_simp
    try simp only [Act.put, z1, z2, z3, z4, z5, z6]
    refine tkI (i := 23) (v := .int .i64 k) rfl ⟨by rfl, ?_⟩ (HS.out _ G0.out) ?_
    ·intro w hSw
     obtain ⟨hs0, hs1, hs2⟩ := hSw
     go_simp
    try simp only [Act.put, z1, z2, z3, z4, z5, z6]
    refine tkI (i := 24) (v := .pointer (some ⟨g, k * 3, none⟩)) rfl ⟨by rfl, ?_⟩ (HS.out _ G0.out) ?_
    ·intro w hSw
     obtain ⟨hs0, hs1, hs2⟩ := hSw
     go_simp
    try simp only [Act.put, z1, z2, z3, z4, z5, z6]
    refine tkI (i := 25) (v := .agg #[.int .i64 mk, .string ⟨#[]⟩, .slice none 0 0]) rfl ⟨by rfl, ?_⟩ (HS.out _ G0.out) ?_
    ·intro w hSw
     obtain ⟨hs0, hs1, hs2⟩ := hSw
     go_simp
    try simp only [Act.put, z1, z2, z3, z4, z5, z6]
    refine tkI (i := 26) (v := .int .i64 k) rfl ⟨by rfl, ?_⟩ (HS.out _ G0.out) ?_
    ·intro w hSw
     obtain ⟨hs0, hs1, hs2⟩ := hSw
     go_simp
    try simp only [Act.put, z1, z2, z3, z4, z5, z6]
    refine tkI (i := 27) (v := .slice A n cl) rfl ⟨by rfl, ?_⟩ (HS.out _ G0.out) ?_
    ·intro w hSw
     obtain ⟨hs0, hs1, hs2⟩ := hSw
     go_simp
    try simp only [Act.put, z1, z2, z3, z4, z5, z6]
    refine tkI (i := 28) (v := .int .i64 n) rfl ⟨by rfl, ?_⟩ (HS.out _ G0.out) ?_
    ·intro w hSw
     obtain ⟨hs0, hs1, hs2⟩ := hSw
     go_simp
    try simp only [Act.put, z1, z2, z3, z4, z5, z6]
    refine tkI (i := 29) (v := .int .i64 j) rfl ⟨by rfl, ?_⟩ (HS.out _ G0.out) ?_
    ·intro w hSw
     obtain ⟨hs0, hs1, hs2⟩ := hSw
     (go_simp; try rw [hsub]; try rw [hwr])
    try simp only [Act.put, z1, z2, z3, z4, z5, z6]
    refine wpAnyH_ready (rs := [30]) (by kernel_rfl) (by simp) ?_
    refine AllReadyH.cons rfl (fun K hK => ?_) AllReadyH.nil
    go_simp
    refine (HMK.out _).mono ?_
    rintro e y1 ⟨rfl, hq⟩
    have G1 := Lib.hid (G0.out.trans (hq.mono G0.out.size))
    clear hq
    refine hK.out _ _ (HS.out _ G1.out) (fun _ => ?_)
    clear hK
    try simp only [Act.put, z1, z2, z3, z4, z5, z6]
    refine wpAnyH_ready (rs := [31]) (by kernel_rfl) (by simp) ?_
    refine AllReadyH.cons rfl (fun K hK => ?_) AllReadyH.nil
    go_simp
    refine (HSM.out _ G1.out).mono ?_
    rintro e y2 ⟨rfl, hq⟩
    have G2 := Lib.hid hq
    clear hq
    refine hK.out _ _ (HS.out _ G2.out) (fun _ => ?_)
    clear hK
    try simp only [Act.put, z1, z2, z3, z4, z5, z6]
    refine tkI (i := 32) (v := .bool false) rfl ⟨by rfl, ?_⟩ (HS.out _ G2.out) ?_
    ·intro w hSw
     obtain ⟨hs0, hs1, hs2⟩ := hSw
     go_simp
    try simp only [Act.put, z1, z2, z3, z4, z5, z6]
    refine tkI (i := 33) (v := .bool false) rfl ⟨by rfl, ?_⟩ (HS.out _ G2.out) ?_
    ·intro w hSw
     obtain ⟨hs0, hs1, hs2⟩ := hSw
     go_simp
    try simp only [Act.put, z1, z2, z3, z4, z5, z6]
    refine tkI (i := 34) (v := .bool false) rfl ⟨by rfl, ?_⟩ (HS.out _ G2.out) ?_
    ·intro w hSw
     obtain ⟨hs0, hs1, hs2⟩ := hSw
     go_simp
    try simp only [Act.put, z1, z2, z3, z4, z5, z6]
    refine ⟨by kernel_rfl, ?_⟩
    refine NoPanic.normal ?_
    go_wp2_with fail
    go_roundw
    case rel => exact ⟨k + 1, by omega, by go_num, HBE.out.trans (G2.out.mono HBE.out.size)⟩
    case measure => simp [intOf]; omega
  ·have hkq : ¬ (k : Int) < (q : Int) := by omega
   clear hbe
   go_wp2_with fail
   go_ret
   exact ⟨rfl, HBE.out⟩

set_option maxRecDepth 100000 in
set_option maxHeartbeats 4000000 in
theorem kept25_any : ∀ x : X, x.sz ≤ 100000 → K25 x := by
 intro x
 induction x using X.ind' with
 | h x ih =>
  intro hsz q N w kv v hlr hq hx hN
  have hle : szL x.kids ≤ 100000 := by have := x.sz_eq; omega
  have hxr := hlr.xr (B := w.heap.size) hq
  have hxv := hx
  obtain ⟨kx, rfl, hkx⟩ := hx
  obtain ⟨W0, hW0⟩ : ∃ W0, (w.alloc (.cells #[.int .i64 x.kind, .string x.lab, kv] 25)).alloc (.cells #[.int .i64 x.kind, .string x.lab, kx] 25) = W0 := ⟨_, rfl⟩
  have hz0 : W0.heap.size = w.heap.size + 2 := by rw [← hW0]; simp
  have hb0 : Below w.heap.size w W0 := by rw [← hW0]; exact ((Below.refl _ w).alloc (Nat.le_refl _) _).alloc (by simp) _
  have hc3 : W0.heap[w.heap.size]? = some (.cells #[.int .i64 x.kind, .string x.lab, kv] 25) := by rw [← hW0, Below.heap_alloc _ _ _ (by simp)]; exact at_push _ _
  have hc4 : W0.heap[w.heap.size + 1]? = some (.cells #[.int .i64 x.kind, .string x.lab, kx] 25) := by
   rw [← hW0]
   have := at_push (w.alloc (.cells #[.int .i64 x.kind, .string x.lab, kv] 25)) (.cells #[.int .i64 x.kind, .string x.lab, kx] 25)
   rwa [World.size_alloc] at this
  have HC := Lib.hid (fun W (h : Below W0.heap.size W0 W) => calls_base (kept45_any (xs := x.kids) (fun y hy => ih y hy (by have := szL_mem hy; omega)) (by have := len_szL x.kids; omega) (hlr.keep (q' := q) (fun b hb => ((hb0.trans (h.mono hb0.size)).block b (hq b hb))) (fun b hb => hb)) (fun b hb => Nat.lt_of_lt_of_le (hq b hb) (Nat.le_trans hb0.size h.size)) (hkx.bel ((hb0.trans (h.mono hb0.size)).mono hN)) (Nat.le_trans hN (Nat.le_trans hb0.size h.size))) h)
  have HSM := Lib.hid (fun W (h : Below W0.heap.size W0 W) => calls_bool2 (same30_any x hsz x w.heap.size W (.agg #[.int .i64 x.kind, .string x.lab, kv]) (.agg #[.int .i64 x.kind, .string x.lab, kx]) ⟨_, rfl, hxr.bel (hb0.trans (h.mono hb0.size))⟩ ((hxv.bel ((hb0.trans (h.mono hb0.size)).mono hN)).mono hN) (Nat.le_trans hb0.size h.size)) h (sameX_true rfl))
  have HB0 := Lib.hid (And.intro hb0 hz0)
  have HBX := Lib.hid (fun W (h : Below W0.heap.size W0 W) => And.intro (box3 ((h.block _ (by omega)).trans hc3)) (box3 ((h.block _ (by omega)).trans hc4)))
  obtain ⟨⟨d0, d1, d2⟩, d3, d4, d5⟩ := HBX.out W0 (Below.refl _ _)
  generalize x.kind = kd at *
  generalize x.lab = lb at *
  clear hc3 hc4 hz0 hb0 hkx hxv hxr hlr ih hq
  go_enter Tryd.func13, Tryd.ntmps13
  go_upto_region 1 with (fail)
  try rw [hW0]
  go_wp2_with (first
   | (go_at_call 50; refine (HSM.out _ (Below.refl _ _)).mono ?_; rintro e w1 ⟨rfl, h1⟩; have H1 := Lib.hid h1; obtain ⟨⟨d0, d1, d2⟩, d3, d4, d5⟩ := HBX.out _ h1; clear h1)
   | (go_at_call 51; refine (HC.out _ H1.out).mono ?_; rintro e w2 ⟨rfl, h2⟩; have H2 := Lib.hid h2; clear h2))
  go_ret
  exact ⟨rfl, HB0.out.1.trans (H2.out.mono HB0.out.1.size)⟩
end Go.Proofs.YtnccgaanfjaimaaDoor

namespace Go.Proofs.YtnccgaanfjaimaaDoor
open Go.ChangeShapes Go.WideShapes Go.ChangeAt Go.RowKit
set_option linter.unusedVariables false
set_option linter.unusedSimpArgs false

attribute [local go_sem] Oper.semAt_some

/-- the document's Nfa, with its parts by name -/
structure RfK (M B : Nat) (w : World) (x : X) (K : RK) (vl : Value) (gF gL : Nat) : Prop where
 pn : K.n + 1 = x.pn
 eF : K.vF = .slice (some ⟨gF, 0, none⟩) (K.n + 1) (K.n + 1)
 eL : K.vL = .slice (some ⟨gL, 0, none⟩) (K.n + 1) (K.n + 1)
 eE : K.E = x.emp
 rn : RN B w K vl x.ps (fun i j => x.fol 1 (i + 1) (j + 1) = true)
 f : FRat B w gF K.n (fun j => x.fst 1 (j + 1) = true)
 l : FRat B w gL K.n (fun j => x.lst 1 (j + 1) = true)
 xv : XV M w (.agg #[.int .i64 K.xk, .string K.xl, K.xv]) x
theorem RefX.k {M B : Nat} {w : World} {R : Nat} {x : X} (h : RefX M B w R x) : ∃ K Al cl gF gL, K.R = R ∧ RfK M B w x K (.slice Al x.pn cl) gF gL := by
 obtain ⟨K, vl, gF, gL, h1, h2, h3, h4, h5, h6, h7, h8, h9⟩ := h
 obtain ⟨Al, cl, e⟩ := row_form h6.lab
 subst e
 exact ⟨K, Al, cl, gF, gL, h1, h2, h3, h4, h5, h6, h7, h8, h9⟩
section
variable {M B : Nat} {w w' : World} {x : X} {K : RK} {vl : Value} {gF gL : Nat}
theorem RfK.refx (h : RfK M B w x K vl gF gL) : RefX M B w K.R x := ⟨K, vl, gF, gL, rfl, h.pn, h.eF, h.eL, h.eE, h.rn, h.f, h.l, h.xv⟩
theorem RfK.bel (h : RfK M B w x K vl gF gL) (hM : M ≤ w.heap.size) (hb : Below w.heap.size w w') : RfK M B w' x K vl gF gL :=
 ⟨h.pn, h.eF, h.eL, h.eE, h.rn.bel hb, h.f.bel hb, h.l.bel hb, h.xv.bel (hb.mono hM)⟩
theorem RfK.cells (h : RfK M B w x K vl gF gL) : w.cell? ⟨K.R, 0, none⟩ = some vl ∧ w.cell? ⟨K.R, 1, none⟩ = some (.slice (some ⟨gF, 0, none⟩) (K.n + 1) (K.n + 1)) ∧ w.cell? ⟨K.R, 2, none⟩ = some (.slice (some ⟨gL, 0, none⟩) (K.n + 1) (K.n + 1)) ∧ w.cell? ⟨K.R, 4, none⟩ = some (.bool x.emp) := by
 obtain ⟨c0, c1, c2, c3, c4⟩ := h.rn.cells
 rw [h.eF] at c1
 rw [h.eL] at c2
 rw [h.eE] at c4
 exact ⟨c0, c1, c2, c4⟩
theorem RfK.first (h : RfK M B w x K vl gF gL) (hs : x.pn ≤ 24) : Calls Tryd.prog 23 #[.slice (some ⟨gF, 0, none⟩) (K.n + 1) (K.n + 1)] w (ListQ (els (nfF x 0)) w) := by
 have hp := h.pn
 rw [← posK_els (P := fun j => x.fst 1 (j + 1) = true) (n := K.n) (S := nfF x 0) (by omega) (fun j _ => by rw [nfF_zero]) (fun q hq => by have := nfF_range _ q hq; omega)]
 exact set23_any (by omega) ⟨gF, rfl, h.f⟩
theorem RfK.last (h : RfK M B w x K vl gF gL) (hs : x.pn ≤ 24) : Calls Tryd.prog 23 #[.slice (some ⟨gL, 0, none⟩) (K.n + 1) (K.n + 1)] w (ListQ (els (nfL x)) w) := by
 have hp := h.pn
 rw [← posK_els (P := fun j => x.lst 1 (j + 1) = true) (n := K.n) (S := nfL x) (by omega) (fun j _ => by rw [nfL_bit]) (fun q hq => by rw [nfL_bit] at hq; have := lst_in x 1 q hq; omega)]
 exact set23_any (by omega) ⟨gL, rfl, h.l⟩
end
theorem sameI_refl {v1 v2 : Value} {l : List Int} {w : World} (h1 : IR w v1 l) (h2 : IR w v2 l) (hn : l.length ≤ 1000000) : Calls Tryd.prog 20 #[v1, v2] w fun e w' => e = .returned (.bool true) ∧ Below w.heap.size w w' :=
 (sameI_any v1 v2 l l w h1 h2 hn).mono (by rintro e w' ⟨rfl, hb⟩; exact ⟨by simp, hb⟩)
theorem ints_le (l : List Nat) (h : l.length ≤ 1000) : (ints l).length ≤ 1000000 := by unfold ints; rw [List.length_map]; omega
theorem folP_le (x : X) (p : Int) : (folP x p).length ≤ 1000 := by
 unfold folP
 split
 ·exact Nat.le_trans (els_len _) (by decide)
 ·simp

/-- the given expression, in its box, and its copy that is lent -/
structure TS (M : Nat) (w W : World) (x : X) (n c : Nat) (A : Option Addr) (kv : Value) (E5 b0 : Nat) : Prop where
 wp : Wp M w x n c A W
 lr : LR (fun b => b < b0) W kv x.kids
 hb0 : b0 ≤ W.heap.size
 b5 : W.heap[E5]? = some (.cells #[.int .i64 x.kind, .string x.lab, kv] 25 (0, 0))
/-- and both Nfas -/
structure TQ (M : Nat) (w W : World) (x : X) (n c : Nat) (A : Option Addr) (kv : Value) (E5 b0 BN N : Nat) (K : RK) (Al : Option Addr) (cl gF gL M' B' : Nat) : Prop where
 ts : TS M w W x n c A kv E5 b0
 nf : NfX W BN N x
 rf : RfK M' B' W x K (.slice Al x.pn cl) gF gL
 hm : M' ≤ W.heap.size
section
variable {M : Nat} {w W W' : World} {x : X} {n c : Nat} {A : Option Addr} {kv : Value} {E5 b0 BN N : Nat} {K : RK} {Al : Option Addr} {cl gF gL M' B' : Nat}
theorem TS.bel (h : TS M w W x n c A kv E5 b0) (hM : M ≤ w.heap.size) (hb : Below W.heap.size W W') : TS M w W' x n c A kv E5 b0 :=
 ⟨h.wp.bel hM hb, h.lr.keep (fun b hq => hb.block b (Nat.lt_of_lt_of_le hq h.hb0)) (fun b hq => hq), Nat.le_trans h.hb0 hb.size, (hb.block _ (Array.getElem?_eq_some_iff.1 h.b5).1).trans h.b5⟩
theorem TQ.bel (h : TQ M w W x n c A kv E5 b0 BN N K Al cl gF gL M' B') (hM : M ≤ w.heap.size) (hb : Below W.heap.size W W') : TQ M w W' x n c A kv E5 b0 BN N K Al cl gF gL M' B' :=
 ⟨h.ts.bel hM hb, h.nf.bel hb, h.rf.bel h.hm hb, Nat.le_trans h.hm hb.size⟩
theorem TQ.cells (h : TQ M w W x n c A kv E5 b0 BN N K Al cl gF gL M' B') : W.cell? ⟨K.R, 0, none⟩ = some (.slice Al x.pn cl) ∧ W.cell? ⟨K.R, 1, none⟩ = some (.slice (some ⟨gF, 0, none⟩) (K.n + 1) (K.n + 1)) ∧ W.cell? ⟨K.R, 2, none⟩ = some (.slice (some ⟨gL, 0, none⟩) (K.n + 1) (K.n + 1)) ∧ W.cell? ⟨K.R, 4, none⟩ = some (.bool x.emp) := h.rf.cells
theorem TS.cells5 (h : TS M w W x n c A kv E5 b0) : W.cell? ⟨E5, 0, none⟩ = some (.int .i64 x.kind) ∧ W.cell? ⟨E5, 1, none⟩ = some (.string x.lab) ∧ W.cell? ⟨E5, 2, none⟩ = some kv :=
 ⟨cell_of_row _ _ 0 _ 25 (0, 0) h.b5, cell_of_row _ _ 1 _ 25 (0, 0) h.b5, cell_of_row _ _ 2 _ 25 (0, 0) h.b5⟩
/-- the lent one as an expression -/
theorem TS.xv5 (h : TS M w W x n c A kv E5 b0) : XV b0 W (.agg #[.int .i64 x.kind, .string x.lab, kv]) x := ⟨kv, rfl, h.lr.xr (fun b hb => hb)⟩
theorem TS.kept (h : TS M w W x n c A kv E5 b0) (hM : M ≤ w.heap.size) (hsz : x.sz ≤ 100000) : Calls Tryd.prog 13 #[.agg #[.int .i64 x.kind, .string x.lab, kv], .agg #[.int .i64 x.kind, .string x.lab, .slice A n c]] W fun e w' => e = .returned (.bool true) ∧ Below W.heap.size W w' :=
 kept25_any x hsz _ M W kv _ h.lr (fun b hb => Nat.lt_of_lt_of_le hb h.hb0) h.wp.xv (Nat.le_trans hM h.wp.b.size)
theorem TS.new (h : TS M w W x n c A kv E5 b0) (hl : x.lit) : Calls Tryd.prog 11 #[.agg #[.int .i64 x.kind, .string x.lab, kv]] W (NewR x W) := new11_any h.xv5 h.hb0 h.wp.tb hl
theorem TS.rnew (h : TS M w W x n c A kv E5 b0) (hM : M ≤ w.heap.size) (hsz : x.sz ≤ 100000) (hl : x.lit) : Calls Tryd.prog 12 #[.agg #[.int .i64 x.kind, .string x.lab, .slice A n c]] W (RNewR x W) :=
 rnew_any h.wp.xv (Nat.le_trans hM h.wp.b.size) hsz hl
theorem TS.start {w2 : World} (h : Wp M w x n c A W) (hM : M ≤ w.heap.size) (hlr : LR (fun b => W.heap.size ≤ b ∧ b < w2.heap.size) w2 kv x.kids) (hb : Below W.heap.size W w2) : TS M w (w2.alloc (.cells #[.int .i64 x.kind, .string x.lab, kv] 25)) x n c A kv w2.heap.size w2.heap.size := by
 have h2 := h.bel hM hb
 have hb2 := (Below.refl _ w2).alloc (Nat.le_refl _) (.cells #[.int .i64 x.kind, .string x.lab, kv] 25)
 exact ⟨h2.bel hM hb2, hlr.keep (fun b hq => hb2.block b hq.2) (fun b hq => hq.2), hb2.size, at_push w2 _⟩
end

set_option maxRecDepth 100000 in
set_option maxHeartbeats 8000000 in
theorem tells_any {M : Nat} {w : World} {v : Value} {x : X} (hx : XV M w v x) (hM : M ≤ w.heap.size) (hl : x.lit) (hT : Tb w) (p : Int) :
  Calls Tryd.prog 3 #[v, .int .i64 p] w fun e w' => e = .returned (.bool true) ∧ Below w.heap.size w w' := by
 obtain ⟨kx, rfl, hr⟩ := hx
 obtain ⟨A, c, rfl⟩ := hr.form
 have Q0 := Lib.hid (Wp.new ⟨_, rfl, hr⟩ hM hT)
 have HL := Lib.hid hl
 obtain ⟨n, hn⟩ : ∃ n, x.kids.length = n := ⟨_, rfl⟩
 rw [hn] at Q0 ⊢
 have hM0 : M ≤ w.heap.size := hM
 clear hr hl hT hn
 by_cases hsz : (300 : Int) < (szD 61 x : Int)
 ·go_enter Tryd.func3, Tryd.ntmps3
  go_wp2_with (first
   | (go_at_call 9; refine (awake_any Q1.out.tb).mono ?_; rintro e w2 ⟨rfl, hb⟩; have Q2 := Lib.hid (Q1.out.bel hM hb); clear hb)
   | (go_at_call 8; refine (size8_any Q0.out.xv (Nat.le_trans hM Q0.out.b.size)).mono ?_; rintro e w1 ⟨rfl, hb⟩; have Q1 := Lib.hid (Q0.out.bel hM hb); clear hb))
  go_ret
  exact ⟨rfl, Q2.out.b⟩
 ·have hsz2 : x.sz ≤ 300 := by
   have h1 := szD_eq 61 x (by omega)
   omega
  have HSZ := Lib.hid (show x.sz ≤ 100000 by omega)
  clear hsz2
  have hd : decide ((300 : Int) < (szD 61 x : Int)) = false := decide_eq_false hsz
  go_enter Tryd.func3, Tryd.ntmps3
  go_upto_region 4 with (first
   | (go_at_call 10; refine (lent9_any x HSZ.out M _ _ Q1.out.xv (Nat.le_trans hM Q1.out.b.size)).mono ?_; rintro e w2 ⟨kv, rfl, hlr, hb⟩; obtain ⟨g5, c5, hkv, _, _⟩ := hlr.form; have Q2 := Lib.hid (TS.start Q1.out hM hlr hb); subst hkv; clear hlr hb)
   | (go_at_call 8; refine (size8_any Q0.out.xv (Nat.le_trans hM Q0.out.b.size)).mono ?_; rintro e w1 ⟨rfl, hb⟩; have Q1 := Lib.hid (Q0.out.bel hM hb); obtain ⟨c0, c1, c2⟩ := Q1.out.cells; clear hb))
  clear c0 c1 c2 hd hsz
  obtain ⟨W4, hW4⟩ : ∃ z, w2.alloc (.cells #[.int .i64 x.kind, .string x.lab, .slice (some ⟨g5, 0, none⟩) x.kids.length c5] 25) = z := ⟨_, rfl⟩
  obtain ⟨E5, hE5⟩ : ∃ z, w2.heap.size = z := ⟨_, rfl⟩
  rw [hW4, hE5] at Q2
  rw [hW4, hE5]
  obtain ⟨b0, hb0⟩ : ∃ z : Nat, E5 = z := ⟨_, rfl⟩
  have Q2 := Lib.hid (show TS M w W4 x n c A (.slice (some ⟨g5, 0, none⟩) x.kids.length c5) E5 b0 by rw [← hb0]; exact Q2.out)
  clear hW4 hE5 hb0
  obtain ⟨c0, c1, c2⟩ := Q2.out.wp.cells
  obtain ⟨d0, d1, d2⟩ := Q2.out.cells5
  cases hrt : x.right with
  | false =>
   have HRT := Lib.hid hrt
   clear hrt
   go_wp2_with (first
    | (go_at_call 9; refine (awake_any Q5.out.wp.tb).mono ?_; rintro e w6 ⟨rfl, hb⟩; have Q6 := Lib.hid (Q5.out.bel hM hb); clear hb)
    | (go_at_call 13; refine (Q4.out.kept hM HSZ.out).mono ?_; rintro e w5 ⟨rfl, hb⟩; have Q5 := Lib.hid (Q4.out.bel hM hb); clear hb)
    | (go_at_call 12; refine (Q3.out.rnew hM HSZ.out HL.out).mono ?_; rintro e w4 ⟨hb, hnn⟩; rw [HRT.out] at hnn; rw [if_neg (by simp)] at hnn; subst hnn; have Q4 := Lib.hid (Q3.out.bel hM hb); obtain ⟨c0, c1, c2⟩ := Q4.out.wp.cells; obtain ⟨d0, d1, d2⟩ := Q4.out.cells5; clear hb)
    | (go_at_call 11; refine (Q2.out.new HL.out).mono ?_; rintro e w3 ⟨hb, hnn⟩; rw [HRT.out] at hnn; rw [if_neg (by simp)] at hnn; subst hnn; have Q3 := Lib.hid (Q2.out.bel hM hb); obtain ⟨c0, c1, c2⟩ := Q3.out.wp.cells; obtain ⟨d0, d1, d2⟩ := Q3.out.cells5; clear hb))
   go_ret
   exact ⟨rfl, Q6.out.wp.b⟩
  | true =>
   have HRT := Lib.hid hrt
   obtain ⟨hg, hs24⟩ := right_good hrt
   have HP24 := Lib.hid (show x.pn ≤ 24 from Nat.le_trans (pn_sz x) hs24)
   have HPN := Lib.hid (show x.pn ≤ 1000 from Nat.le_trans HP24.out (by decide))
   clear hrt hg hs24
   go_upto_region 6 with (first
    | (go_at_call 12; refine (Q3.out.1.rnew hM HSZ.out HL.out).mono ?_; rintro e w4 ⟨hb, hnn⟩; rw [HRT.out] at hnn; rw [if_pos rfl] at hnn; obtain ⟨R, rfl, hrf⟩ := hnn; have Q4 := Lib.hid (And.intro (Q3.out.1.bel hM hb) (And.intro (Q3.out.2.bel hb) (And.intro hrf hb.size))); clear hb hrf)
    | (go_at_call 11; refine (Q2.out.new HL.out).mono ?_; rintro e w3 ⟨hb, hnn⟩; rw [HRT.out] at hnn; rw [if_pos rfl] at hnn; obtain ⟨N, rfl, hnf⟩ := hnn; have Q3 := Lib.hid (And.intro (Q2.out.bel hM hb) hnf); obtain ⟨c0, c1, c2⟩ := Q3.out.1.wp.cells; obtain ⟨d0, d1, d2⟩ := Q3.out.1.cells5; clear hb hnf))
   clear c0 c1 c2 d0 d1 d2
   obtain ⟨K, Al, cl, gF, gL, hKR, hrf⟩ := Q4.out.2.2.1.k
   subst hKR
   have Q5 := Lib.hid (TQ.mk Q4.out.1 Q4.out.2.1 hrf Q4.out.2.2.2)
   clear hrf Q4 Q3 Q2
   obtain ⟨BN, hBN⟩ : ∃ z : Nat, W4.heap.size = z := ⟨_, rfl⟩
   obtain ⟨M', hM'⟩ : ∃ z : Nat, w3.heap.size = z := ⟨_, rfl⟩
   obtain ⟨B', hB'⟩ : ∃ z : Nat, w3.heap.size = z := ⟨_, rfl⟩
   have Q5 := Lib.hid (show TQ M w w4 x n c A (.slice (some ⟨g5, 0, none⟩) x.kids.length c5) E5 b0 BN N K Al cl gF gL M' B' by rw [← hBN, ← hM', ← hB']; exact Q5.out)
   clear hBN hM' hB'
   go_upto_region 10 with (first
    | (go_at_call 15; refine (overI_own Q6.out.2.1 (Nat.le_trans (els_len _) (by decide))).mono ?_; rintro e w6 ⟨rfl, hb⟩; have Q8 := Lib.hid (Q5.out.bel hM (Q6.out.1.trans hb)); clear hb)
    | (go_at_call 14; refine (first14_any Q5.out.nf Q5.out.ts.wp.tb HP24.out).mono ?_; rintro e w5 ⟨vf, rfl, ho, hb⟩; have Q6 := Lib.hid (And.intro hb (And.intro ho trivial)); clear ho hb))
   obtain ⟨u0, hu0⟩ : ∃ z, w6.drew = z := ⟨_, rfl⟩
   have J0 := Lib.hid (show TQ M w u0 x n c A (.slice (some ⟨g5, 0, none⟩) x.kids.length c5) E5 b0 BN N K Al cl gF gL M' B' by rw [← hu0]; exact Q8.out.bel hM (Below.refl _ _).drew)
   refine wp_region_noPanic ?_
   refine wp_region_held_drew (S := fun W => W.cell? ⟨K.R, 0, none⟩ = some (.slice Al x.pn cl) ∧ W.cell? ⟨K.R, 1, none⟩ = some (.slice (some ⟨gF, 0, none⟩) (K.n + 1) (K.n + 1)) ∧ W.cell? ⟨K.R, 2, none⟩ = some (.slice (some ⟨gL, 0, none⟩) (K.n + 1) (K.n + 1)) ∧ W.cell? ⟨K.R, 4, none⟩ = some (.bool x.emp)) (by kernel_rfl) (by rw [hu0]; exact J0.out.cells) (fun hHeld => ?_)
   clear hHeld
   rw [hu0]
   clear hu0
   refine tkI (i := 0) (v := .pointer (some ⟨N, 0, none⟩)) rfl ⟨by rfl, ?_⟩ J0.out.cells ?_
   ·intro ww hSw
    obtain ⟨hs0, hs1, hs2, hs4⟩ := hSw
    go_simp
   try simp only [Act.put, z1, z2, z3, z4, z5, z6]
   refine tkI (i := 2) (v := .pointer (some ⟨K.R, 0, none⟩)) rfl ⟨by rfl, ?_⟩ J0.out.cells ?_
   ·intro ww hSw
    obtain ⟨hs0, hs1, hs2, hs4⟩ := hSw
    go_simp
   try simp only [Act.put, z1, z2, z3, z4, z5, z6]
   refine tkI (i := 3) (v := .pointer (some ⟨K.R, 0, none⟩)) rfl ⟨by rfl, ?_⟩ J0.out.cells ?_
   ·intro ww hSw
    obtain ⟨hs0, hs1, hs2, hs4⟩ := hSw
    go_simp
   try simp only [Act.put, z1, z2, z3, z4, z5, z6]
   refine tkI (i := 4) (v := .pointer (some ⟨K.R, 0, none⟩)) rfl ⟨by rfl, ?_⟩ J0.out.cells ?_
   ·intro ww hSw
    obtain ⟨hs0, hs1, hs2, hs4⟩ := hSw
    go_simp
   try simp only [Act.put, z1, z2, z3, z4, z5, z6]
   refine tkI (i := 5) (v := .slice Al x.pn cl) rfl ⟨by rfl, ?_⟩ J0.out.cells ?_
   ·intro ww hSw
    obtain ⟨hs0, hs1, hs2, hs4⟩ := hSw
    go_simp
   try simp only [Act.put, z1, z2, z3, z4, z5, z6]
   refine tkI (i := 6) (v := .int .i64 x.pn) rfl ⟨by rfl, ?_⟩ J0.out.cells ?_
   ·intro ww hSw
    obtain ⟨hs0, hs1, hs2, hs4⟩ := hSw
    go_simp
   try simp only [Act.put, z1, z2, z3, z4, z5, z6]
   refine wpAnyH_ready (rs := [1]) (by kernel_rfl) (by simp) ?_
   refine AllReadyH.cons rfl (fun k_ hK => ?_) AllReadyH.nil
   go_simp
   refine (len_any J0.out.nf HPN.out).mono ?_
   rintro e ww ⟨rfl, hw⟩
   subst hw
   refine hK.out _ _ J0.out.cells (fun _ => ?_)
   clear hK
   try simp only [Act.put, z1, z2, z3, z4, z5, z6]
   refine tkI (i := 7) (v := .bool false) rfl ⟨by rfl, ?_⟩ J0.out.cells ?_
   ·intro ww hSw
    obtain ⟨hs0, hs1, hs2, hs4⟩ := hSw
    (go_simp; try simp)
   try simp only [Act.put, z1, z2, z3, z4, z5, z6]
   refine tkI (i := 8) (v := .bool false) rfl ⟨by rfl, ?_⟩ J0.out.cells ?_
   ·intro ww hSw
    obtain ⟨hs0, hs1, hs2, hs4⟩ := hSw
    go_simp
   try simp only [Act.put, z1, z2, z3, z4, z5, z6]
   refine tkI (i := 9) (v := .pointer (some ⟨N, 0, none⟩)) rfl ⟨by rfl, ?_⟩ J0.out.cells ?_
   ·intro ww hSw
    obtain ⟨hs0, hs1, hs2, hs4⟩ := hSw
    go_simp
   try simp only [Act.put, z1, z2, z3, z4, z5, z6]
   refine tkI (i := 11) (v := .pointer (some ⟨K.R, 0, none⟩)) rfl ⟨by rfl, ?_⟩ J0.out.cells ?_
   ·intro ww hSw
    obtain ⟨hs0, hs1, hs2, hs4⟩ := hSw
    go_simp
   try simp only [Act.put, z1, z2, z3, z4, z5, z6]
   refine tkI (i := 12) (v := .pointer (some ⟨K.R, 0, none⟩)) rfl ⟨by rfl, ?_⟩ J0.out.cells ?_
   ·intro ww hSw
    obtain ⟨hs0, hs1, hs2, hs4⟩ := hSw
    go_simp
   try simp only [Act.put, z1, z2, z3, z4, z5, z6]
   refine tkI (i := 13) (v := .pointer (some ⟨K.R, 4, none⟩)) rfl ⟨by rfl, ?_⟩ J0.out.cells ?_
   ·intro ww hSw
    obtain ⟨hs0, hs1, hs2, hs4⟩ := hSw
    go_simp
   try simp only [Act.put, z1, z2, z3, z4, z5, z6]
   refine tkI (i := 14) (v := .bool x.emp) rfl ⟨by rfl, ?_⟩ J0.out.cells ?_
   ·intro ww hSw
    obtain ⟨hs0, hs1, hs2, hs4⟩ := hSw
    go_simp
   try simp only [Act.put, z1, z2, z3, z4, z5, z6]
   refine wpAnyH_ready (rs := [10]) (by kernel_rfl) (by simp) ?_
   refine AllReadyH.cons rfl (fun k_ hK => ?_) AllReadyH.nil
   go_simp
   refine (empty_any J0.out.nf).mono ?_
   rintro e ww ⟨rfl, hw⟩
   subst hw
   refine hK.out _ _ J0.out.cells (fun _ => ?_)
   clear hK
   try simp only [Act.put, z1, z2, z3, z4, z5, z6]
   refine tkI (i := 15) (v := .bool false) rfl ⟨by rfl, ?_⟩ J0.out.cells ?_
   ·intro ww hSw
    obtain ⟨hs0, hs1, hs2, hs4⟩ := hSw
    (go_simp; try simp)
   try simp only [Act.put, z1, z2, z3, z4, z5, z6]
   refine tkI (i := 16) (v := .bool false) rfl ⟨by rfl, ?_⟩ J0.out.cells ?_
   ·intro ww hSw
    obtain ⟨hs0, hs1, hs2, hs4⟩ := hSw
    go_simp
   try simp only [Act.put, z1, z2, z3, z4, z5, z6]
   refine tkI (i := 17) (v := .bool false) rfl ⟨by rfl, ?_⟩ J0.out.cells ?_
   ·intro ww hSw
    obtain ⟨hs0, hs1, hs2, hs4⟩ := hSw
    go_simp
   try simp only [Act.put, z1, z2, z3, z4, z5, z6]
   refine tkI (i := 18) (v := .pointer (some ⟨N, 0, none⟩)) rfl ⟨by rfl, ?_⟩ J0.out.cells ?_
   ·intro ww hSw
    obtain ⟨hs0, hs1, hs2, hs4⟩ := hSw
    go_simp
   try simp only [Act.put, z1, z2, z3, z4, z5, z6]
   refine tkI (i := 19) (v := .int .i64 p) rfl ⟨by rfl, ?_⟩ J0.out.cells ?_
   ·intro ww hSw
    obtain ⟨hs0, hs1, hs2, hs4⟩ := hSw
    go_simp
   try simp only [Act.put, z1, z2, z3, z4, z5, z6]
   refine tkI (i := 21) (v := .pointer (some ⟨K.R, 0, none⟩)) rfl ⟨by rfl, ?_⟩ J0.out.cells ?_
   ·intro ww hSw
    obtain ⟨hs0, hs1, hs2, hs4⟩ := hSw
    go_simp
   try simp only [Act.put, z1, z2, z3, z4, z5, z6]
   refine tkI (i := 22) (v := .int .i64 p) rfl ⟨by rfl, ?_⟩ J0.out.cells ?_
   ·intro ww hSw
    obtain ⟨hs0, hs1, hs2, hs4⟩ := hSw
    go_simp
   try simp only [Act.put, z1, z2, z3, z4, z5, z6]
   refine wpAnyH_ready (rs := [20]) (by kernel_rfl) (by simp) ?_
   refine AllReadyH.cons rfl (fun k_ hK => ?_) AllReadyH.nil
   go_simp
   refine (label18_any J0.out.nf HPN.out p).mono ?_
   rintro e ww ⟨rfl, hw⟩
   subst hw
   refine hK.out _ _ J0.out.cells (fun _ => ?_)
   clear hK
   try simp only [Act.put, z1, z2, z3, z4, z5, z6]
   refine wpAnyH_ready (rs := [23]) (by kernel_rfl) (by simp) ?_
   refine AllReadyH.cons rfl (fun k_ hK => ?_) AllReadyH.nil
   go_simp
   refine (label19_any J0.out.rf.refx HPN.out p).mono ?_
   rintro e ww ⟨rfl, hw⟩
   subst hw
   refine hK.out _ _ J0.out.cells (fun _ => ?_)
   clear hK
   try simp only [Act.put, z1, z2, z3, z4, z5, z6]
   refine tkI (i := 24) (v := .bool false) rfl ⟨by rfl, ?_⟩ J0.out.cells ?_
   ·intro ww hSw
    obtain ⟨hs0, hs1, hs2, hs4⟩ := hSw
    (go_simp; try simp)
   try simp only [Act.put, z1, z2, z3, z4, z5, z6]
   refine tkI (i := 25) (v := .bool false) rfl ⟨by rfl, ?_⟩ J0.out.cells ?_
   ·intro ww hSw
    obtain ⟨hs0, hs1, hs2, hs4⟩ := hSw
    go_simp
   try simp only [Act.put, z1, z2, z3, z4, z5, z6]
   refine tkI (i := 26) (v := .bool false) rfl ⟨by rfl, ?_⟩ J0.out.cells ?_
   ·intro ww hSw
    obtain ⟨hs0, hs1, hs2, hs4⟩ := hSw
    go_simp
   try simp only [Act.put, z1, z2, z3, z4, z5, z6]
   refine tkI (i := 27) (v := .pointer (some ⟨N, 0, none⟩)) rfl ⟨by rfl, ?_⟩ J0.out.cells ?_
   ·intro ww hSw
    obtain ⟨hs0, hs1, hs2, hs4⟩ := hSw
    go_simp
   try simp only [Act.put, z1, z2, z3, z4, z5, z6]
   refine tkI (i := 28) (v := .int .i64 p) rfl ⟨by rfl, ?_⟩ J0.out.cells ?_
   ·intro ww hSw
    obtain ⟨hs0, hs1, hs2, hs4⟩ := hSw
    go_simp
   try simp only [Act.put, z1, z2, z3, z4, z5, z6]
   refine tkI (i := 30) (v := .pointer (some ⟨K.R, 0, none⟩)) rfl ⟨by rfl, ?_⟩ J0.out.cells ?_
   ·intro ww hSw
    obtain ⟨hs0, hs1, hs2, hs4⟩ := hSw
    go_simp
   try simp only [Act.put, z1, z2, z3, z4, z5, z6]
   refine tkI (i := 31) (v := .int .i64 p) rfl ⟨by rfl, ?_⟩ J0.out.cells ?_
   ·intro ww hSw
    obtain ⟨hs0, hs1, hs2, hs4⟩ := hSw
    go_simp
   try simp only [Act.put, z1, z2, z3, z4, z5, z6]
   refine wpAnyH_ready (rs := [29]) (by kernel_rfl) (by simp) ?_
   refine AllReadyH.cons rfl (fun k_ hK => ?_) AllReadyH.nil
   go_simp
   refine (follow_any J0.out.nf J0.out.ts.wp.tb HP24.out p).mono ?_
   rintro e u1 ⟨v1, rfl, ho1, hb⟩
   have J1 := Lib.hid (J0.out.bel hM hb)
   have I1 := Lib.hid (ListQ.ir ho1)
   clear ho1
   clear hb
   refine hK.out _ _ J1.out.cells (fun _ => ?_)
   clear hK
   try simp only [Act.put, z1, z2, z3, z4, z5, z6]
   refine wpAnyH_ready (rs := [32]) (by kernel_rfl) (by simp) ?_
   refine AllReadyH.cons rfl (fun k_ hK => ?_) AllReadyH.nil
   go_simp
   refine (follow22_any J1.out.rf.refx HP24.out p).mono ?_
   rintro e u2 ⟨v2, rfl, ho2, hb⟩
   have J2 := Lib.hid (J1.out.bel hM hb)
   have I2 := Lib.hid (ListQ.ir ho2)
   have I3 := Lib.hid (I1.out.bel hb)
   clear ho2
   clear hb
   refine hK.out _ _ J2.out.cells (fun _ => ?_)
   clear hK
   try simp only [Act.put, z1, z2, z3, z4, z5, z6]
   refine wpAnyH_ready (rs := [33]) (by kernel_rfl) (by simp) ?_
   refine AllReadyH.cons rfl (fun k_ hK => ?_) AllReadyH.nil
   go_simp
   refine (sameI_refl I3.out I2.out (by exact ints_le _ (folP_le x p))).mono ?_
   rintro e u3 ⟨rfl, hb⟩
   have J3 := Lib.hid (J2.out.bel hM hb)
   clear I1 I2 I3
   clear hb
   refine hK.out _ _ J3.out.cells (fun _ => ?_)
   clear hK
   try simp only [Act.put, z1, z2, z3, z4, z5, z6]
   refine tkI (i := 34) (v := .bool false) rfl ⟨by rfl, ?_⟩ J3.out.cells ?_
   ·intro ww hSw
    obtain ⟨hs0, hs1, hs2, hs4⟩ := hSw
    go_simp
   try simp only [Act.put, z1, z2, z3, z4, z5, z6]
   refine tkI (i := 35) (v := .bool false) rfl ⟨by rfl, ?_⟩ J3.out.cells ?_
   ·intro ww hSw
    obtain ⟨hs0, hs1, hs2, hs4⟩ := hSw
    go_simp
   try simp only [Act.put, z1, z2, z3, z4, z5, z6]
   refine tkI (i := 36) (v := .bool false) rfl ⟨by rfl, ?_⟩ J3.out.cells ?_
   ·intro ww hSw
    obtain ⟨hs0, hs1, hs2, hs4⟩ := hSw
    go_simp
   try simp only [Act.put, z1, z2, z3, z4, z5, z6]
   refine tkI (i := 37) (v := .pointer (some ⟨N, 0, none⟩)) rfl ⟨by rfl, ?_⟩ J3.out.cells ?_
   ·intro ww hSw
    obtain ⟨hs0, hs1, hs2, hs4⟩ := hSw
    go_simp
   try simp only [Act.put, z1, z2, z3, z4, z5, z6]
   refine tkI (i := 39) (v := .pointer (some ⟨K.R, 0, none⟩)) rfl ⟨by rfl, ?_⟩ J3.out.cells ?_
   ·intro ww hSw
    obtain ⟨hs0, hs1, hs2, hs4⟩ := hSw
    go_simp
   try simp only [Act.put, z1, z2, z3, z4, z5, z6]
   refine tkI (i := 40) (v := .pointer (some ⟨K.R, 0, none⟩)) rfl ⟨by rfl, ?_⟩ J3.out.cells ?_
   ·intro ww hSw
    obtain ⟨hs0, hs1, hs2, hs4⟩ := hSw
    go_simp
   try simp only [Act.put, z1, z2, z3, z4, z5, z6]
   refine tkI (i := 41) (v := .pointer (some ⟨K.R, 1, none⟩)) rfl ⟨by rfl, ?_⟩ J3.out.cells ?_
   ·intro ww hSw
    obtain ⟨hs0, hs1, hs2, hs4⟩ := hSw
    go_simp
   try simp only [Act.put, z1, z2, z3, z4, z5, z6]
   refine tkI (i := 42) (v := .slice (some ⟨gF, 0, none⟩) (K.n + 1) (K.n + 1)) rfl ⟨by rfl, ?_⟩ J3.out.cells ?_
   ·intro ww hSw
    obtain ⟨hs0, hs1, hs2, hs4⟩ := hSw
    go_simp
   try simp only [Act.put, z1, z2, z3, z4, z5, z6]
   refine wpAnyH_ready (rs := [38]) (by kernel_rfl) (by simp) ?_
   refine AllReadyH.cons rfl (fun k_ hK => ?_) AllReadyH.nil
   go_simp
   refine (first14_any J3.out.nf J3.out.ts.wp.tb HP24.out).mono ?_
   rintro e u4 ⟨v1, rfl, ho1, hb⟩
   have J4 := Lib.hid (J3.out.bel hM hb)
   have I1 := Lib.hid (ListQ.ir ho1)
   clear ho1
   clear hb
   refine hK.out _ _ J4.out.cells (fun _ => ?_)
   clear hK
   try simp only [Act.put, z1, z2, z3, z4, z5, z6]
   refine wpAnyH_ready (rs := [43]) (by kernel_rfl) (by simp) ?_
   refine AllReadyH.cons rfl (fun k_ hK => ?_) AllReadyH.nil
   go_simp
   refine (J4.out.rf.first HP24.out).mono ?_
   rintro e u5 ⟨v2, rfl, ho2, hb⟩
   have J5 := Lib.hid (J4.out.bel hM hb)
   have I2 := Lib.hid (ListQ.ir ho2)
   have I3 := Lib.hid (I1.out.bel hb)
   clear ho2
   clear hb
   refine hK.out _ _ J5.out.cells (fun _ => ?_)
   clear hK
   try simp only [Act.put, z1, z2, z3, z4, z5, z6]
   refine wpAnyH_ready (rs := [44]) (by kernel_rfl) (by simp) ?_
   refine AllReadyH.cons rfl (fun k_ hK => ?_) AllReadyH.nil
   go_simp
   refine (sameI_refl I3.out I2.out (by exact ints_le _ (Nat.le_trans (els_len _) (by decide)))).mono ?_
   rintro e u6 ⟨rfl, hb⟩
   have J6 := Lib.hid (J5.out.bel hM hb)
   clear I1 I2 I3
   clear hb
   refine hK.out _ _ J6.out.cells (fun _ => ?_)
   clear hK
   try simp only [Act.put, z1, z2, z3, z4, z5, z6]
   refine tkI (i := 45) (v := .bool false) rfl ⟨by rfl, ?_⟩ J6.out.cells ?_
   ·intro ww hSw
    obtain ⟨hs0, hs1, hs2, hs4⟩ := hSw
    go_simp
   try simp only [Act.put, z1, z2, z3, z4, z5, z6]
   refine tkI (i := 46) (v := .bool false) rfl ⟨by rfl, ?_⟩ J6.out.cells ?_
   ·intro ww hSw
    obtain ⟨hs0, hs1, hs2, hs4⟩ := hSw
    go_simp
   try simp only [Act.put, z1, z2, z3, z4, z5, z6]
   refine tkI (i := 47) (v := .bool false) rfl ⟨by rfl, ?_⟩ J6.out.cells ?_
   ·intro ww hSw
    obtain ⟨hs0, hs1, hs2, hs4⟩ := hSw
    go_simp
   try simp only [Act.put, z1, z2, z3, z4, z5, z6]
   refine tkI (i := 48) (v := .pointer (some ⟨N, 0, none⟩)) rfl ⟨by rfl, ?_⟩ J6.out.cells ?_
   ·intro ww hSw
    obtain ⟨hs0, hs1, hs2, hs4⟩ := hSw
    go_simp
   try simp only [Act.put, z1, z2, z3, z4, z5, z6]
   refine tkI (i := 50) (v := .pointer (some ⟨K.R, 0, none⟩)) rfl ⟨by rfl, ?_⟩ J6.out.cells ?_
   ·intro ww hSw
    obtain ⟨hs0, hs1, hs2, hs4⟩ := hSw
    go_simp
   try simp only [Act.put, z1, z2, z3, z4, z5, z6]
   refine tkI (i := 51) (v := .pointer (some ⟨K.R, 0, none⟩)) rfl ⟨by rfl, ?_⟩ J6.out.cells ?_
   ·intro ww hSw
    obtain ⟨hs0, hs1, hs2, hs4⟩ := hSw
    go_simp
   try simp only [Act.put, z1, z2, z3, z4, z5, z6]
   refine tkI (i := 52) (v := .pointer (some ⟨K.R, 2, none⟩)) rfl ⟨by rfl, ?_⟩ J6.out.cells ?_
   ·intro ww hSw
    obtain ⟨hs0, hs1, hs2, hs4⟩ := hSw
    go_simp
   try simp only [Act.put, z1, z2, z3, z4, z5, z6]
   refine tkI (i := 53) (v := .slice (some ⟨gL, 0, none⟩) (K.n + 1) (K.n + 1)) rfl ⟨by rfl, ?_⟩ J6.out.cells ?_
   ·intro ww hSw
    obtain ⟨hs0, hs1, hs2, hs4⟩ := hSw
    go_simp
   try simp only [Act.put, z1, z2, z3, z4, z5, z6]
   refine wpAnyH_ready (rs := [49]) (by kernel_rfl) (by simp) ?_
   refine AllReadyH.cons rfl (fun k_ hK => ?_) AllReadyH.nil
   go_simp
   refine (last_any J6.out.nf J6.out.ts.wp.tb HP24.out).mono ?_
   rintro e u7 ⟨v1, rfl, ho1, hb⟩
   have J7 := Lib.hid (J6.out.bel hM hb)
   have I1 := Lib.hid (ListQ.ir ho1)
   clear ho1
   clear hb
   refine hK.out _ _ J7.out.cells (fun _ => ?_)
   clear hK
   try simp only [Act.put, z1, z2, z3, z4, z5, z6]
   refine wpAnyH_ready (rs := [54]) (by kernel_rfl) (by simp) ?_
   refine AllReadyH.cons rfl (fun k_ hK => ?_) AllReadyH.nil
   go_simp
   refine (J7.out.rf.last HP24.out).mono ?_
   rintro e u8 ⟨v2, rfl, ho2, hb⟩
   have J8 := Lib.hid (J7.out.bel hM hb)
   have I2 := Lib.hid (ListQ.ir ho2)
   have I3 := Lib.hid (I1.out.bel hb)
   clear ho2
   clear hb
   refine hK.out _ _ J8.out.cells (fun _ => ?_)
   clear hK
   try simp only [Act.put, z1, z2, z3, z4, z5, z6]
   refine wpAnyH_ready (rs := [55]) (by kernel_rfl) (by simp) ?_
   refine AllReadyH.cons rfl (fun k_ hK => ?_) AllReadyH.nil
   go_simp
   refine (sameI_refl I3.out I2.out (by exact ints_le _ (Nat.le_trans (els_len _) (by decide)))).mono ?_
   rintro e u9 ⟨rfl, hb⟩
   have J9 := Lib.hid (J8.out.bel hM hb)
   clear I1 I2 I3
   clear hb
   refine hK.out _ _ J9.out.cells (fun _ => ?_)
   clear hK
   try simp only [Act.put, z1, z2, z3, z4, z5, z6]
   refine tkI (i := 56) (v := .bool false) rfl ⟨by rfl, ?_⟩ J9.out.cells ?_
   ·intro ww hSw
    obtain ⟨hs0, hs1, hs2, hs4⟩ := hSw
    go_simp
   try simp only [Act.put, z1, z2, z3, z4, z5, z6]
   refine tkI (i := 57) (v := .bool false) rfl ⟨by rfl, ?_⟩ J9.out.cells ?_
   ·intro ww hSw
    obtain ⟨hs0, hs1, hs2, hs4⟩ := hSw
    go_simp
   try simp only [Act.put, z1, z2, z3, z4, z5, z6]
   refine ⟨by kernel_rfl, ?_⟩
   refine NoPanic.normal ?_
   clear J0 J1 J2 J3 J4 J5 J6 J7 J8
   have HE := Lib.hid (J9.out)
   obtain ⟨W9, hW9⟩ : ∃ z, u9 = z := ⟨_, rfl⟩
   rw [hW9] at HE ⊢
   clear hW9 J9
   go_upto_region 13 with (fail)
   go_loopw [11] (fun u11 wr => ∃ k : Nat, k ≤ x.pn + 2 ∧ u11 = .int .i64 k ∧ TQ M w wr x n c A (.slice (some ⟨g5, 0, none⟩) x.kids.length c5) E5 b0 BN N K Al cl gF gL M' B') (fun u11 _ => x.pn + 3 - (intOf u11).toNat)
   case atStart => exact ⟨0, Nat.zero_le _, rfl, HE.out⟩
   case round =>
    clear HE
    obtain ⟨k, hk, rfl, hR⟩ := hrel
    have H0 := Lib.hid hR
    clear hR
    have hpn24 := HP24.out
    obtain ⟨f0, -, -, -⟩ := H0.out.cells
    by_cases hkm : k ≤ x.pn + 1
    ·have hki : (k : Int) ≤ (x.pn : Int) + 1 := by omega
     go_wp2_with (first
      | (go_at_call 20; refine (sameI_refl I3.out I2.out (ints_le _ (folP_le x k))).mono ?_; rintro e y3 ⟨rfl, hb⟩; have H3 := Lib.hid (H2.out.bel hM hb); clear hb)
      | (go_at_call 22; refine (follow22_any H1.out.rf.refx HP24.out k).mono ?_; rintro e y2 ⟨v2, rfl, ho, hb⟩; have I2 := Lib.hid (ListQ.ir ho); have I3 := Lib.hid (I1.out.bel hb); have H2 := Lib.hid (H1.out.bel hM hb); clear hb ho)
      | (go_at_call 21; refine (follow_any H0.out.nf H0.out.ts.wp.tb HP24.out k).mono ?_; rintro e y1 ⟨v1, rfl, ho, hb⟩; have I1 := Lib.hid (ListQ.ir ho); have H1 := Lib.hid (H0.out.bel hM hb); clear hb ho)
      | (go_at_call 19; refine (label19_any H0.out.rf.refx HPN.out k).mono ?_; rintro e y0 ⟨rfl, hw⟩; subst hw)
      | (go_at_call 18; refine (label18_any H0.out.nf HPN.out k).mono ?_; rintro e y0 ⟨rfl, hw⟩; subst hw))
     go_roundw
     case rel => exact ⟨k + 1, by omega, by go_num, H3.out⟩
     case measure => simp [intOf]; omega
    ·have hki : ¬ (k : Int) ≤ (x.pn : Int) + 1 := by omega
     obtain ⟨c0, c1, c2⟩ := H0.out.ts.wp.cells
     obtain ⟨d0, d1, d2⟩ := H0.out.ts.cells5
     go_wp2_with (first
      | (go_at_call 9; refine (awake_any H1.out.ts.wp.tb).mono ?_; rintro e y2 ⟨rfl, hb⟩; have H2 := Lib.hid (H1.out.bel hM hb); clear hb)
      | (go_at_call 13; refine (H0.out.ts.kept hM HSZ.out).mono ?_; rintro e y1 ⟨rfl, hb⟩; have H1 := Lib.hid (H0.out.bel hM hb); clear hb))
     go_ret
     exact ⟨rfl, H2.out.ts.wp.b⟩
end Go.Proofs.YtnccgaanfjaimaaDoor
