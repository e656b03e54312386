/- The kit's expressions: what is lent stays as it was. -/
import Derived.Test.YtnohnkhhkeikoaaKY
import Derived.Test.YtnohnkhhkeikoaaSX
namespace Go.Proofs.Ytnohnkhhkeikoaa
open Go.ChangeShapes Go.WideShapes Go.ChangeAt Go.RowKit
set_option linter.unusedVariables false
set_option linter.unusedSimpArgs false

attribute [local go_sem] Oper.semAt_some

theorem LR.kid {q : Nat → Prop} {w : World} {g n c : Nat} {xs : List X} (h : LR q w (.slice (some ⟨g, 0, none⟩) n c) xs) {i : Nat} (hi : i < xs.length) :
    ∃ kv, (w.cell? ⟨g, i * 3, none⟩ = some (.int .i64 xs[i].kind) ∧ w.cell? ⟨g, i * 3 + 1, none⟩ = some (.string xs[i].lab) ∧ w.cell? ⟨g, i * 3 + 2, none⟩ = some kv) ∧ LR q w kv xs[i].kids := by
  cases h with
  | mk g c ps hq hc hcell hk =>
    have hi2 : i < ps.length := by simpa using hi
    obtain ⟨h0, h1, h2⟩ := flatP_at (ps ++ mkps) i (by rw [List.length_append]; omega)
    rw [List.getElem_append_left hi2] at h0 h1 h2
    refine ⟨ps[i].2, ⟨?_, ?_, hcell _ _ h2⟩, ?_⟩
    · rw [List.getElem_map]; exact hcell _ _ h0
    · rw [List.getElem_map]; exact hcell _ _ h1
    · rw [List.getElem_map]; exact hk _ (List.getElem_mem _)
theorem LR.mark {q : Nat → Prop} {w : World} {g n c : Nat} {xs : List X} (h : LR q w (.slice (some ⟨g, 0, none⟩) n c) xs) {j : Nat} (hj : j < 12) :
    w.cell? ⟨g, (n + j) * 3, none⟩ = some (.int .i64 (8000024 + j)) ∧ w.cell? ⟨g, (n + j) * 3 + 1, none⟩ = some (.string ⟨#[]⟩) ∧ w.cell? ⟨g, (n + j) * 3 + 2, none⟩ = some (.slice none 0 0) := by
  cases h with
  | mk g c ps hq hc hcell hk =>
    obtain ⟨h0, h1, h2⟩ := flatP_at (ps ++ mkps) (ps.length + j) (by rw [List.length_append, mkps_len]; omega)
    have e : (ps ++ mkps)[ps.length + j]'(by rw [List.length_append, mkps_len]; omega) = (mX j, .slice none 0 0) := by
      rw [List.getElem_append_right (by omega)]
      simp only [Nat.add_sub_cancel_left]
      exact mkps_get j (by rw [mkps_len]; omega)
    rw [e] at h0 h1 h2
    exact ⟨hcell _ _ h0, hcell _ _ h1, hcell _ _ h2⟩
theorem LR.len {q : Nat → Prop} {w : World} {g n c : Nat} {xs : List X} (h : LR q w (.slice (some ⟨g, 0, none⟩) n c) xs) : n = xs.length := by
  cases h with
  | mk g c ps hq hc hcell hk => simp

theorem calls_bool2 {f : FuncId} {args : Array Value} {W0 W : World} {r r' : Bool} (h : Calls Try.prog f args W fun e w' => e = .returned (.bool r) ∧ Below W.heap.size W w') (hb : Below W0.heap.size W0 W) (e : r = r') :
    Calls Try.prog f args W fun e w' => e = .returned (.bool r') ∧ Below W0.heap.size W0 w' := by
  subst e
  exact calls_base h hb
def K25 (x : X) : Prop := ∀ (q : Nat → Prop) (N : Nat) (w : World) (kv v : Value), LR q w kv x.kids → (∀ b, q b → b < w.heap.size) → XV N w v x → N ≤ w.heap.size → Calls Try.prog 25 #[.agg #[.int .i64 x.kind, .string x.lab, kv], v] w fun e w' => e = .returned (.bool true) ∧ Below w.heap.size w w'

set_option maxRecDepth 100000 in
set_option maxHeartbeats 4000000 in
theorem kept45_any {xs : List X} (hxs : ∀ x ∈ xs, K25 x) (hl : xs.length ≤ 100000) {p : Nat → Prop} {N : Nat} {w : World} {v v' : Value} (hv : LR p w v xs) (hp : ∀ b, p b → b < w.heap.size) (hx : XR N w v' xs) (hN : N ≤ w.heap.size) :
    Calls Try.prog 45 #[v, v'] w fun e w' => e = .returned (.bool true) ∧ Below w.heap.size w w' := by
  have HV := Lib.hid (fun W (h : Below w.heap.size w W) => hv.keep (q' := p) (fun b hb => h.block b (hp b hb)) (fun b hb => hb))
  have HX := Lib.hid (fun W (h : Below w.heap.size w W) => hx.bel (h.mono hN))
  have HP := Lib.hid hp
  have HXS := Lib.hid hxs
  have HNW := Lib.hid hN
  obtain ⟨A, cl, rfl⟩ := hx.form
  obtain ⟨g, c, rfl, _, hcap⟩ := hv.form
  obtain ⟨n, hn⟩ : ∃ n, xs.length = n := ⟨_, rfl⟩
  have HN := Lib.hid hn
  rw [hn] at hcap hl HV HX ⊢
  obtain ⟨q, hq⟩ : ∃ q, q = n + 12 := ⟨_, rfl⟩
  have HQ := Lib.hid hq
  have hnat : ((n : Int) + 12).toNat = q := by omega
  have hci : (n : Int) + 12 ≤ (c : Int) := by omega
  have hqc : q ≤ c := by omega
  have hq9 : q ≤ 100012 := by omega
  have hqi : (n : Int) + 12 = (q : Int) := by omega
  clear hn hq hv hx hxs hN hp
  go_enter Try.func45, Try.ntmps45
  go_upto_region 5 with (fail)
  clear hnat hci
  go_loopw [6] (fun i wr => ∃ k : Nat, k ≤ q ∧ i = .int .i64 k ∧ Below w.heap.size w wr) (fun i _ => q + 1 - (intOf i).toNat)
  case atStart => exact ⟨0, Nat.zero_le _, rfl, Below.refl _ _⟩
  case round =>
    obtain ⟨k, hk, rfl, hbe⟩ := hrel
    have HBE := Lib.hid hbe
    by_cases hlt : k < q
    · have hk0 : (0 : Int) ≤ (k : Int) := by omega
      have hkq : (k : Int) < (q : Int) := by omega
      have hkqn : ¬ (q ≤ k) := by omega
      go_upto_region 7 with (fail)
      have G0 := Lib.hid (Below.refl wr.heap.size wr).drew
      have hlr := fun W (h : Below wr.heap.size wr W) => HV.out W (hbe.trans (h.mono hbe.size))
      by_cases hkn : k < n
      · have hkl : k < xs.length := by have := HN.out; omega
        obtain ⟨ad, kl, e1, hbA, a0, a1, a2, hkl2⟩ := (HX.out wr hbe).at3 hkl
        subst e1
        obtain ⟨ko, ⟨b0, b1, b2⟩, hko⟩ := (hlr wr (Below.refl _ _)).kid hkl
        have hy25 := HXS.out xs[k] (List.getElem_mem _)
        have hgp := HP.out
        have hgw : g < w.heap.size := by
          have h1 := (HV.out wr hbe).form
          obtain ⟨g', c', e, hg', _⟩ := h1
          injection e with e
          injection e with e
          injection e with e
          subst e
          exact HP.out _ hg'
        obtain ⟨y, hy⟩ : ∃ y, xs[k] = y := ⟨_, rfl⟩
        rw [hy] at a0 a1 hkl2 hy25 b0 b1 hko
        have HCALL := Lib.hid (fun W (h : Below wr.heap.size wr W) => calls_base (hy25 p N W ko _ (hko.keep (q' := p) (fun b hb => h.block b (Nat.lt_of_lt_of_le (HP.out b hb) hbe.size)) (fun b hb => hb)) (fun b hb => Nat.lt_of_lt_of_le (HP.out b hb) (Nat.le_trans hbe.size h.size)) ⟨kl, rfl, hkl2.bel (h.mono (Nat.le_trans HNW.out hbe.size))⟩ (Nat.le_trans HNW.out (Nat.le_trans hbe.size h.size))) h)
        have hgr : g < wr.heap.size := Nat.lt_of_lt_of_le hgw hbe.size
        have har : ad.block < wr.heap.size := Nat.lt_of_lt_of_le hbA (Nat.le_trans HNW.out hbe.size)
        have HS := Lib.hid (fun W (h : Below wr.heap.size wr W) => And.intro (And.intro ((World.cell?_of_block (a := ⟨g, k * 3, none⟩) (h.block _ hgr)).trans b0) (And.intro ((World.cell?_of_block (a := ⟨g, k * 3 + 1, none⟩) (h.block _ hgr)).trans b1) ((World.cell?_of_block (a := ⟨g, k * 3 + 2, none⟩) (h.block _ hgr)).trans b2)))
          (And.intro ((World.cell?_of_block (h.block _ (by rw [block_add]; exact har))).trans a0) (And.intro ((World.cell?_of_block (h.block _ (by show (ad.add (k * 3)).block < _; rw [block_add]; exact har))).trans a1) ((World.cell?_of_block (h.block _ (by show (ad.add (k * 3)).block < _; rw [block_add]; exact har))).trans a2))))
        obtain ⟨yk, hyk⟩ : ∃ yk, y.kind = yk := ⟨_, rfl⟩
        obtain ⟨yl, hyl⟩ : ∃ yl, y.lab = yl := ⟨_, rfl⟩
        rw [hyk, hyl] at HS HCALL
        have hkni : (k : Int) < (n : Int) := by omega
        have hkni2 : ¬ (n : Int) ≤ (k : Int) := by omega
        clear a0 a1 a2 b0 b1 b2 hkl2 hko hy25 hgp hgw hgr har hyk hyl hbe hlr hy HV HX HXS HP HQ hcap hl hbA hkl
        refine wp_region_noPanic ?_
        refine wp_region_held_drew (S := fun W => ((W.cell? ⟨g, k * 3, none⟩ = some (.int .i64 yk) ∧ W.cell? ⟨g, k * 3 + 1, none⟩ = some (.string yl) ∧ W.cell? ⟨g, k * 3 + 2, none⟩ = some ko) ∧ W.cell? (ad.add (k * 3)) = some (.int .i64 yk) ∧ W.cell? ⟨(ad.add (k * 3)).block, (ad.add (k * 3)).off + 1, none⟩ = some (.string yl) ∧ W.cell? ⟨(ad.add (k * 3)).block, (ad.add (k * 3)).off + 2, none⟩ = some kl)) (by kernel_rfl) (HS.out _ G0.out) (fun hHeld => ?_)
        clear hHeld
        refine wpAnyH_take (i := 0) (v := .int .i64 k) rfl (by kernel_rfl) (by kernel_rfl) (by kernel_rfl) (fun _ _ _ h => (h : False).elim) (Or.inl ⟨by rfl, ?_⟩) (HS.out _ G0.out) ?_
        · intro w hSw
          obtain ⟨⟨hs0, hs1, hs2⟩, hs3, hs4, hs5⟩ := hSw
          go_simp
        try simp only [Act.put, List.getElem_toArray, List.getElem_cons_zero, List.getElem_cons_succ, List.setIfInBounds_toArray, List.set_cons_zero, List.set_cons_succ]
        refine wpAnyH_take (i := 1) (v := .slice (some ad) n cl) rfl (by kernel_rfl) (by kernel_rfl) (by kernel_rfl) (fun _ _ _ h => (h : False).elim) (Or.inl ⟨by rfl, ?_⟩) (HS.out _ G0.out) ?_
        · intro w hSw
          obtain ⟨⟨hs0, hs1, hs2⟩, hs3, hs4, hs5⟩ := hSw
          go_simp
        try simp only [Act.put, List.getElem_toArray, List.getElem_cons_zero, List.getElem_cons_succ, List.setIfInBounds_toArray, List.set_cons_zero, List.set_cons_succ]
        refine wpAnyH_take (i := 2) (v := .int .i64 n) rfl (by kernel_rfl) (by kernel_rfl) (by kernel_rfl) (fun _ _ _ h => (h : False).elim) (Or.inl ⟨by rfl, ?_⟩) (HS.out _ G0.out) ?_
        · intro w hSw
          obtain ⟨⟨hs0, hs1, hs2⟩, hs3, hs4, hs5⟩ := hSw
          go_simp
        try simp only [Act.put, List.getElem_toArray, List.getElem_cons_zero, List.getElem_cons_succ, List.setIfInBounds_toArray, List.set_cons_zero, List.set_cons_succ]
        refine wpAnyH_take (i := 3) (v := .bool true) rfl (by kernel_rfl) (by kernel_rfl) (by kernel_rfl) (fun _ _ _ h => (h : False).elim) (Or.inl ⟨by rfl, ?_⟩) (HS.out _ G0.out) ?_
        · intro w hSw
          obtain ⟨⟨hs0, hs1, hs2⟩, hs3, hs4, hs5⟩ := hSw
          go_simp
        try simp only [Act.put, List.getElem_toArray, List.getElem_cons_zero, List.getElem_cons_succ, List.setIfInBounds_toArray, List.set_cons_zero, List.set_cons_succ]
        refine wpAnyH_take (i := 4) (v := .bool true) rfl (by kernel_rfl) (by kernel_rfl) (by kernel_rfl) (fun _ _ _ h => (h : False).elim) (Or.inl ⟨by rfl, ?_⟩) (HS.out _ G0.out) ?_
        · intro w hSw
          obtain ⟨⟨hs0, hs1, hs2⟩, hs3, hs4, hs5⟩ := hSw
          go_simp
        try simp only [Act.put, List.getElem_toArray, List.getElem_cons_zero, List.getElem_cons_succ, List.setIfInBounds_toArray, List.set_cons_zero, List.set_cons_succ]
        refine wpAnyH_take (i := 5) (v := .slice (some ⟨g, 0, none⟩) q c) rfl (by kernel_rfl) (by kernel_rfl) (by kernel_rfl) (fun _ _ _ h => (h : False).elim) (Or.inl ⟨by rfl, ?_⟩) (HS.out _ G0.out) ?_
        · intro w hSw
          obtain ⟨⟨hs0, hs1, hs2⟩, hs3, hs4, hs5⟩ := hSw
          go_simp
        try simp only [Act.put, List.getElem_toArray, List.getElem_cons_zero, List.getElem_cons_succ, List.setIfInBounds_toArray, List.set_cons_zero, List.set_cons_succ]
        refine wpAnyH_take (i := 6) (v := .int .i64 k) rfl (by kernel_rfl) (by kernel_rfl) (by kernel_rfl) (fun _ _ _ h => (h : False).elim) (Or.inl ⟨by rfl, ?_⟩) (HS.out _ G0.out) ?_
        · intro w hSw
          obtain ⟨⟨hs0, hs1, hs2⟩, hs3, hs4, hs5⟩ := hSw
          go_simp
        try simp only [Act.put, List.getElem_toArray, List.getElem_cons_zero, List.getElem_cons_succ, List.setIfInBounds_toArray, List.set_cons_zero, List.set_cons_succ]
        refine wpAnyH_take (i := 7) (v := .pointer (some ⟨g, k * 3, none⟩)) rfl (by kernel_rfl) (by kernel_rfl) (by kernel_rfl) (fun _ _ _ h => (h : False).elim) (Or.inl ⟨by rfl, ?_⟩) (HS.out _ G0.out) ?_
        · intro w hSw
          obtain ⟨⟨hs0, hs1, hs2⟩, hs3, hs4, hs5⟩ := hSw
          go_simp
        try simp only [Act.put, List.getElem_toArray, List.getElem_cons_zero, List.getElem_cons_succ, List.setIfInBounds_toArray, List.set_cons_zero, List.set_cons_succ]
        refine wpAnyH_take (i := 8) (v := .agg #[.int .i64 yk, .string yl, ko]) rfl (by kernel_rfl) (by kernel_rfl) (by kernel_rfl) (fun _ _ _ h => (h : False).elim) (Or.inl ⟨by rfl, ?_⟩) (HS.out _ G0.out) ?_
        · intro w hSw
          obtain ⟨⟨hs0, hs1, hs2⟩, hs3, hs4, hs5⟩ := hSw
          go_simp
        try simp only [Act.put, List.getElem_toArray, List.getElem_cons_zero, List.getElem_cons_succ, List.setIfInBounds_toArray, List.set_cons_zero, List.set_cons_succ]
        refine wpAnyH_take (i := 9) (v := .slice (some ad) n cl) rfl (by kernel_rfl) (by kernel_rfl) (by kernel_rfl) (fun _ _ _ h => (h : False).elim) (Or.inl ⟨by rfl, ?_⟩) (HS.out _ G0.out) ?_
        · intro w hSw
          obtain ⟨⟨hs0, hs1, hs2⟩, hs3, hs4, hs5⟩ := hSw
          go_simp
        try simp only [Act.put, List.getElem_toArray, List.getElem_cons_zero, List.getElem_cons_succ, List.setIfInBounds_toArray, List.set_cons_zero, List.set_cons_succ]
        refine wpAnyH_take (i := 10) (v := .int .i64 k) rfl (by kernel_rfl) (by kernel_rfl) (by kernel_rfl) (fun _ _ _ h => (h : False).elim) (Or.inl ⟨by rfl, ?_⟩) (HS.out _ G0.out) ?_
        · intro w hSw
          obtain ⟨⟨hs0, hs1, hs2⟩, hs3, hs4, hs5⟩ := hSw
          go_simp
        try simp only [Act.put, List.getElem_toArray, List.getElem_cons_zero, List.getElem_cons_succ, List.setIfInBounds_toArray, List.set_cons_zero, List.set_cons_succ]
        refine wpAnyH_take (i := 11) (v := .pointer (some (ad.add (k * 3)))) rfl (by kernel_rfl) (by kernel_rfl) (by kernel_rfl) (fun _ _ _ h => (h : False).elim) (Or.inl ⟨by rfl, ?_⟩) (HS.out _ G0.out) ?_
        · intro w hSw
          obtain ⟨⟨hs0, hs1, hs2⟩, hs3, hs4, hs5⟩ := hSw
          go_simp
        try simp only [Act.put, List.getElem_toArray, List.getElem_cons_zero, List.getElem_cons_succ, List.setIfInBounds_toArray, List.set_cons_zero, List.set_cons_succ]
        refine wpAnyH_take (i := 12) (v := .agg #[.int .i64 yk, .string yl, kl]) rfl (by kernel_rfl) (by kernel_rfl) (by kernel_rfl) (fun _ _ _ h => (h : False).elim) (Or.inl ⟨by rfl, ?_⟩) (HS.out _ G0.out) ?_
        · intro w hSw
          obtain ⟨⟨hs0, hs1, hs2⟩, hs3, hs4, hs5⟩ := hSw
          go_simp
        try simp only [Act.put, List.getElem_toArray, List.getElem_cons_zero, List.getElem_cons_succ, List.setIfInBounds_toArray, List.set_cons_zero, List.set_cons_succ]
        refine wpAnyH_ready (rs := [13]) (by kernel_rfl) (by simp) ?_
        refine AllReadyH.cons rfl (fun K hK => ?_) AllReadyH.nil
        go_simp
        refine (HCALL.out _ G0.out).mono ?_
        rintro e y1 ⟨rfl, hq⟩
        have G1 := Lib.hid hq
        clear hq
        refine hK.out _ _ (HS.out _ G1.out) (fun _ => ?_)
        clear hK
        try simp only [Act.put, List.getElem_toArray, List.getElem_cons_zero, List.getElem_cons_succ, List.setIfInBounds_toArray, List.set_cons_zero, List.set_cons_succ]
        refine wpAnyH_take (i := 14) (v := .bool false) rfl (by kernel_rfl) (by kernel_rfl) (by kernel_rfl) (fun _ _ _ h => (h : False).elim) (Or.inl ⟨by rfl, ?_⟩) (HS.out _ G1.out) ?_
        · intro w hSw
          obtain ⟨⟨hs0, hs1, hs2⟩, hs3, hs4, hs5⟩ := hSw
          go_simp
        try simp only [Act.put, List.getElem_toArray, List.getElem_cons_zero, List.getElem_cons_succ, List.setIfInBounds_toArray, List.set_cons_zero, List.set_cons_succ]
        refine wpAnyH_take (i := 15) (v := .bool false) rfl (by kernel_rfl) (by kernel_rfl) (by kernel_rfl) (fun _ _ _ h => (h : False).elim) (Or.inl ⟨by rfl, ?_⟩) (HS.out _ G1.out) ?_
        · intro w hSw
          obtain ⟨⟨hs0, hs1, hs2⟩, hs3, hs4, hs5⟩ := hSw
          go_simp
        try simp only [Act.put, List.getElem_toArray, List.getElem_cons_zero, List.getElem_cons_succ, List.setIfInBounds_toArray, List.set_cons_zero, List.set_cons_succ]
        refine wpAnyH_take (i := 16) (v := .bool false) rfl (by kernel_rfl) (by kernel_rfl) (by kernel_rfl) (fun _ _ _ h => (h : False).elim) (Or.inl ⟨by rfl, ?_⟩) (HS.out _ G1.out) ?_
        · intro w hSw
          obtain ⟨⟨hs0, hs1, hs2⟩, hs3, hs4, hs5⟩ := hSw
          go_simp
        try simp only [Act.put, List.getElem_toArray, List.getElem_cons_zero, List.getElem_cons_succ, List.setIfInBounds_toArray, List.set_cons_zero, List.set_cons_succ]
        refine wpAnyH_take (i := 17) (v := .int .i64 k) rfl (by kernel_rfl) (by kernel_rfl) (by kernel_rfl) (fun _ _ _ h => (h : False).elim) (Or.inl ⟨by rfl, ?_⟩) (HS.out _ G1.out) ?_
        · intro w hSw
          obtain ⟨⟨hs0, hs1, hs2⟩, hs3, hs4, hs5⟩ := hSw
          go_simp
        try simp only [Act.put, List.getElem_toArray, List.getElem_cons_zero, List.getElem_cons_succ, List.setIfInBounds_toArray, List.set_cons_zero, List.set_cons_succ]
        refine wpAnyH_take (i := 18) (v := .slice (some ad) n cl) rfl (by kernel_rfl) (by kernel_rfl) (by kernel_rfl) (fun _ _ _ h => (h : False).elim) (Or.inl ⟨by rfl, ?_⟩) (HS.out _ G1.out) ?_
        · intro w hSw
          obtain ⟨⟨hs0, hs1, hs2⟩, hs3, hs4, hs5⟩ := hSw
          go_simp
        try simp only [Act.put, List.getElem_toArray, List.getElem_cons_zero, List.getElem_cons_succ, List.setIfInBounds_toArray, List.set_cons_zero, List.set_cons_succ]
        refine wpAnyH_take (i := 19) (v := .int .i64 n) rfl (by kernel_rfl) (by kernel_rfl) (by kernel_rfl) (fun _ _ _ h => (h : False).elim) (Or.inl ⟨by rfl, ?_⟩) (HS.out _ G1.out) ?_
        · intro w hSw
          obtain ⟨⟨hs0, hs1, hs2⟩, hs3, hs4, hs5⟩ := hSw
          go_simp
        try simp only [Act.put, List.getElem_toArray, List.getElem_cons_zero, List.getElem_cons_succ, List.setIfInBounds_toArray, List.set_cons_zero, List.set_cons_succ]
        refine wpAnyH_take (i := 20) (v := .bool false) rfl (by kernel_rfl) (by kernel_rfl) (by kernel_rfl) (fun _ _ _ h => (h : False).elim) (Or.inl ⟨by rfl, ?_⟩) (HS.out _ G1.out) ?_
        · intro w hSw
          obtain ⟨⟨hs0, hs1, hs2⟩, hs3, hs4, hs5⟩ := hSw
          go_simp
        try simp only [Act.put, List.getElem_toArray, List.getElem_cons_zero, List.getElem_cons_succ, List.setIfInBounds_toArray, List.set_cons_zero, List.set_cons_succ]
        refine wpAnyH_take (i := 21) (v := .bool false) rfl (by kernel_rfl) (by kernel_rfl) (by kernel_rfl) (fun _ _ _ h => (h : False).elim) (Or.inl ⟨by rfl, ?_⟩) (HS.out _ G1.out) ?_
        · intro w hSw
          obtain ⟨⟨hs0, hs1, hs2⟩, hs3, hs4, hs5⟩ := hSw
          go_simp
        try simp only [Act.put, List.getElem_toArray, List.getElem_cons_zero, List.getElem_cons_succ, List.setIfInBounds_toArray, List.set_cons_zero, List.set_cons_succ]
        refine wpAnyH_take (i := 22) (v := undef) rfl (by kernel_rfl) (by kernel_rfl) (by kernel_rfl) (fun _ _ _ h => (h : False).elim) (Or.inr ⟨by rfl, rfl⟩) (HS.out _ G1.out) ?_
        try simp only [Act.put, List.getElem_toArray, List.getElem_cons_zero, List.getElem_cons_succ, List.setIfInBounds_toArray, List.set_cons_zero, List.set_cons_succ]
        refine wpAnyH_take (i := 23) (v := undef) rfl (by kernel_rfl) (by kernel_rfl) (by kernel_rfl) (fun _ _ _ h => (h : False).elim) (Or.inr ⟨by rfl, rfl⟩) (HS.out _ G1.out) ?_
        try simp only [Act.put, List.getElem_toArray, List.getElem_cons_zero, List.getElem_cons_succ, List.setIfInBounds_toArray, List.set_cons_zero, List.set_cons_succ]
        refine wpAnyH_take (i := 24) (v := undef) rfl (by kernel_rfl) (by kernel_rfl) (by kernel_rfl) (fun _ _ _ h => (h : False).elim) (Or.inr ⟨by rfl, rfl⟩) (HS.out _ G1.out) ?_
        try simp only [Act.put, List.getElem_toArray, List.getElem_cons_zero, List.getElem_cons_succ, List.setIfInBounds_toArray, List.set_cons_zero, List.set_cons_succ]
        refine wpAnyH_take (i := 25) (v := undef) rfl (by kernel_rfl) (by kernel_rfl) (by kernel_rfl) (fun _ _ _ h => (h : False).elim) (Or.inr ⟨by rfl, rfl⟩) (HS.out _ G1.out) ?_
        try simp only [Act.put, List.getElem_toArray, List.getElem_cons_zero, List.getElem_cons_succ, List.setIfInBounds_toArray, List.set_cons_zero, List.set_cons_succ]
        refine wpAnyH_take (i := 26) (v := undef) rfl (by kernel_rfl) (by kernel_rfl) (by kernel_rfl) (fun _ _ _ h => (h : False).elim) (Or.inr ⟨by rfl, rfl⟩) (HS.out _ G1.out) ?_
        try simp only [Act.put, List.getElem_toArray, List.getElem_cons_zero, List.getElem_cons_succ, List.setIfInBounds_toArray, List.set_cons_zero, List.set_cons_succ]
        refine wpAnyH_take (i := 27) (v := undef) rfl (by kernel_rfl) (by kernel_rfl) (by kernel_rfl) (fun _ _ _ h => (h : False).elim) (Or.inr ⟨by rfl, rfl⟩) (HS.out _ G1.out) ?_
        try simp only [Act.put, List.getElem_toArray, List.getElem_cons_zero, List.getElem_cons_succ, List.setIfInBounds_toArray, List.set_cons_zero, List.set_cons_succ]
        refine wpAnyH_take (i := 28) (v := undef) rfl (by kernel_rfl) (by kernel_rfl) (by kernel_rfl) (fun _ _ _ h => (h : False).elim) (Or.inr ⟨by rfl, rfl⟩) (HS.out _ G1.out) ?_
        try simp only [Act.put, List.getElem_toArray, List.getElem_cons_zero, List.getElem_cons_succ, List.setIfInBounds_toArray, List.set_cons_zero, List.set_cons_succ]
        refine wpAnyH_take (i := 29) (v := undef) rfl (by kernel_rfl) (by kernel_rfl) (by kernel_rfl) (fun _ _ _ h => (h : False).elim) (Or.inr ⟨by rfl, rfl⟩) (HS.out _ G1.out) ?_
        try simp only [Act.put, List.getElem_toArray, List.getElem_cons_zero, List.getElem_cons_succ, List.setIfInBounds_toArray, List.set_cons_zero, List.set_cons_succ]
        refine wpAnyH_take (i := 30) (v := undef) rfl (by kernel_rfl) (by kernel_rfl) (by kernel_rfl) (fun _ _ _ h => (h : False).elim) (Or.inr ⟨by rfl, rfl⟩) (HS.out _ G1.out) ?_
        try simp only [Act.put, List.getElem_toArray, List.getElem_cons_zero, List.getElem_cons_succ, List.setIfInBounds_toArray, List.set_cons_zero, List.set_cons_succ]
        refine wpAnyH_take (i := 31) (v := undef) rfl (by kernel_rfl) (by kernel_rfl) (by kernel_rfl) (fun _ _ _ h => (h : False).elim) (Or.inr ⟨by rfl, rfl⟩) (HS.out _ G1.out) ?_
        try simp only [Act.put, List.getElem_toArray, List.getElem_cons_zero, List.getElem_cons_succ, List.setIfInBounds_toArray, List.set_cons_zero, List.set_cons_succ]
        refine wpAnyH_take (i := 32) (v := undef) rfl (by kernel_rfl) (by kernel_rfl) (by kernel_rfl) (fun _ _ _ h => (h : False).elim) (Or.inr ⟨by rfl, rfl⟩) (HS.out _ G1.out) ?_
        try simp only [Act.put, List.getElem_toArray, List.getElem_cons_zero, List.getElem_cons_succ, List.setIfInBounds_toArray, List.set_cons_zero, List.set_cons_succ]
        refine wpAnyH_take (i := 33) (v := .bool false) rfl (by kernel_rfl) (by kernel_rfl) (by kernel_rfl) (fun _ _ _ h => (h : False).elim) (Or.inl ⟨by rfl, ?_⟩) (HS.out _ G1.out) ?_
        · intro w hSw
          obtain ⟨⟨hs0, hs1, hs2⟩, hs3, hs4, hs5⟩ := hSw
          go_simp
        try simp only [Act.put, List.getElem_toArray, List.getElem_cons_zero, List.getElem_cons_succ, List.setIfInBounds_toArray, List.set_cons_zero, List.set_cons_succ]
        refine wpAnyH_take (i := 34) (v := .bool false) rfl (by kernel_rfl) (by kernel_rfl) (by kernel_rfl) (fun _ _ _ h => (h : False).elim) (Or.inl ⟨by rfl, ?_⟩) (HS.out _ G1.out) ?_
        · intro w hSw
          obtain ⟨⟨hs0, hs1, hs2⟩, hs3, hs4, hs5⟩ := hSw
          go_simp
        try simp only [Act.put, List.getElem_toArray, List.getElem_cons_zero, List.getElem_cons_succ, List.setIfInBounds_toArray, List.set_cons_zero, List.set_cons_succ]
        refine ⟨by kernel_rfl, ?_⟩
        refine NoPanic.normal ?_
        go_wp2_with fail
        go_roundw
        case rel => exact ⟨k + 1, by omega, by go_num, HBE.out.trans (G1.out.mono HBE.out.size)⟩
        case measure => simp [intOf]; omega
      · obtain ⟨j, hj⟩ : ∃ j : Nat, j = k - n := ⟨_, rfl⟩
        have hsub : (k : Int) - (n : Int) = (j : Int) := by omega
        have hj12 : j < 12 := by have := HQ.out; omega
        have hwr : IntKind.i64.wrap (j : Int) = (j : Int) := IntWalk.i64_in _ ⟨by omega, by omega⟩
        have hnk : n + j = k := by omega
        have HMK := Lib.hid (fun W => markExpr_any j (by omega) W)
        have HSM := Lib.hid (fun W (h : Below wr.heap.size wr W) => calls_bool2 (same30_any (mX j) (by rw [X.sz_eq]; simp [mX, X.kids, szL_nil]) (mX j) 0 W (.agg #[.int .i64 (8000024 + j), .string ⟨#[]⟩, .slice none 0 0]) (.agg #[.int .i64 (8000024 + j), .string ⟨#[]⟩, .slice none 0 0]) ⟨_, rfl, XR.nil _ _ _ _⟩ ⟨_, rfl, XR.nil _ _ _ _⟩ (Nat.zero_le _)) h (sameX_true rfl))
        have hm := fun W (h : Below wr.heap.size wr W) => (hlr W h).mark hj12
        rw [hnk] at hm
        have HS := Lib.hid hm
        obtain ⟨mk, hmk⟩ : ∃ mk : Int, (8000024 + (j : Int)) = mk := ⟨_, rfl⟩
        rw [hmk] at HS HMK HSM
        have hkni : ¬ (k : Int) < (n : Int) := by omega
        have hkni2 : (n : Int) ≤ (k : Int) := by omega
        clear hmk hm hlr hj hnk hbe HV HX HXS HP HQ hcap hl
        refine wp_region_noPanic ?_
        refine wp_region_held_drew (S := fun W => (W.cell? ⟨g, k * 3, none⟩ = some (.int .i64 mk) ∧ W.cell? ⟨g, k * 3 + 1, none⟩ = some (.string ⟨#[]⟩) ∧ W.cell? ⟨g, k * 3 + 2, none⟩ = some (.slice none 0 0))) (by kernel_rfl) (HS.out _ G0.out) (fun hHeld => ?_)
        clear hHeld
        refine wpAnyH_take (i := 0) (v := .int .i64 k) rfl (by kernel_rfl) (by kernel_rfl) (by kernel_rfl) (fun _ _ _ h => (h : False).elim) (Or.inl ⟨by rfl, ?_⟩) (HS.out _ G0.out) ?_
        · intro w hSw
          obtain ⟨hs0, hs1, hs2⟩ := hSw
          go_simp
        try simp only [Act.put, List.getElem_toArray, List.getElem_cons_zero, List.getElem_cons_succ, List.setIfInBounds_toArray, List.set_cons_zero, List.set_cons_succ]
        refine wpAnyH_take (i := 1) (v := .slice A n cl) rfl (by kernel_rfl) (by kernel_rfl) (by kernel_rfl) (fun _ _ _ h => (h : False).elim) (Or.inl ⟨by rfl, ?_⟩) (HS.out _ G0.out) ?_
        · intro w hSw
          obtain ⟨hs0, hs1, hs2⟩ := hSw
          go_simp
        try simp only [Act.put, List.getElem_toArray, List.getElem_cons_zero, List.getElem_cons_succ, List.setIfInBounds_toArray, List.set_cons_zero, List.set_cons_succ]
        refine wpAnyH_take (i := 2) (v := .int .i64 n) rfl (by kernel_rfl) (by kernel_rfl) (by kernel_rfl) (fun _ _ _ h => (h : False).elim) (Or.inl ⟨by rfl, ?_⟩) (HS.out _ G0.out) ?_
        · intro w hSw
          obtain ⟨hs0, hs1, hs2⟩ := hSw
          go_simp
        try simp only [Act.put, List.getElem_toArray, List.getElem_cons_zero, List.getElem_cons_succ, List.setIfInBounds_toArray, List.set_cons_zero, List.set_cons_succ]
        refine wpAnyH_take (i := 3) (v := .bool false) rfl (by kernel_rfl) (by kernel_rfl) (by kernel_rfl) (fun _ _ _ h => (h : False).elim) (Or.inl ⟨by rfl, ?_⟩) (HS.out _ G0.out) ?_
        · intro w hSw
          obtain ⟨hs0, hs1, hs2⟩ := hSw
          go_simp
        try simp only [Act.put, List.getElem_toArray, List.getElem_cons_zero, List.getElem_cons_succ, List.setIfInBounds_toArray, List.set_cons_zero, List.set_cons_succ]
        refine wpAnyH_take (i := 4) (v := .bool false) rfl (by kernel_rfl) (by kernel_rfl) (by kernel_rfl) (fun _ _ _ h => (h : False).elim) (Or.inl ⟨by rfl, ?_⟩) (HS.out _ G0.out) ?_
        · intro w hSw
          obtain ⟨hs0, hs1, hs2⟩ := hSw
          go_simp
        try simp only [Act.put, List.getElem_toArray, List.getElem_cons_zero, List.getElem_cons_succ, List.setIfInBounds_toArray, List.set_cons_zero, List.set_cons_succ]
        refine wpAnyH_take (i := 5) (v := undef) rfl (by kernel_rfl) (by kernel_rfl) (by kernel_rfl) (fun _ _ _ h => (h : False).elim) (Or.inr ⟨by rfl, rfl⟩) (HS.out _ G0.out) ?_
        try simp only [Act.put, List.getElem_toArray, List.getElem_cons_zero, List.getElem_cons_succ, List.setIfInBounds_toArray, List.set_cons_zero, List.set_cons_succ]
        refine wpAnyH_take (i := 6) (v := undef) rfl (by kernel_rfl) (by kernel_rfl) (by kernel_rfl) (fun _ _ _ h => (h : False).elim) (Or.inr ⟨by rfl, rfl⟩) (HS.out _ G0.out) ?_
        try simp only [Act.put, List.getElem_toArray, List.getElem_cons_zero, List.getElem_cons_succ, List.setIfInBounds_toArray, List.set_cons_zero, List.set_cons_succ]
        refine wpAnyH_take (i := 7) (v := undef) rfl (by kernel_rfl) (by kernel_rfl) (by kernel_rfl) (fun _ _ _ h => (h : False).elim) (Or.inr ⟨by rfl, rfl⟩) (HS.out _ G0.out) ?_
        try simp only [Act.put, List.getElem_toArray, List.getElem_cons_zero, List.getElem_cons_succ, List.setIfInBounds_toArray, List.set_cons_zero, List.set_cons_succ]
        refine wpAnyH_take (i := 8) (v := undef) rfl (by kernel_rfl) (by kernel_rfl) (by kernel_rfl) (fun _ _ _ h => (h : False).elim) (Or.inr ⟨by rfl, rfl⟩) (HS.out _ G0.out) ?_
        try simp only [Act.put, List.getElem_toArray, List.getElem_cons_zero, List.getElem_cons_succ, List.setIfInBounds_toArray, List.set_cons_zero, List.set_cons_succ]
        refine wpAnyH_take (i := 9) (v := undef) rfl (by kernel_rfl) (by kernel_rfl) (by kernel_rfl) (fun _ _ _ h => (h : False).elim) (Or.inr ⟨by rfl, rfl⟩) (HS.out _ G0.out) ?_
        try simp only [Act.put, List.getElem_toArray, List.getElem_cons_zero, List.getElem_cons_succ, List.setIfInBounds_toArray, List.set_cons_zero, List.set_cons_succ]
        refine wpAnyH_take (i := 10) (v := undef) rfl (by kernel_rfl) (by kernel_rfl) (by kernel_rfl) (fun _ _ _ h => (h : False).elim) (Or.inr ⟨by rfl, rfl⟩) (HS.out _ G0.out) ?_
        try simp only [Act.put, List.getElem_toArray, List.getElem_cons_zero, List.getElem_cons_succ, List.setIfInBounds_toArray, List.set_cons_zero, List.set_cons_succ]
        refine wpAnyH_take (i := 11) (v := undef) rfl (by kernel_rfl) (by kernel_rfl) (by kernel_rfl) (fun _ _ _ h => (h : False).elim) (Or.inr ⟨by rfl, rfl⟩) (HS.out _ G0.out) ?_
        try simp only [Act.put, List.getElem_toArray, List.getElem_cons_zero, List.getElem_cons_succ, List.setIfInBounds_toArray, List.set_cons_zero, List.set_cons_succ]
        refine wpAnyH_take (i := 12) (v := undef) rfl (by kernel_rfl) (by kernel_rfl) (by kernel_rfl) (fun _ _ _ h => (h : False).elim) (Or.inr ⟨by rfl, rfl⟩) (HS.out _ G0.out) ?_
        try simp only [Act.put, List.getElem_toArray, List.getElem_cons_zero, List.getElem_cons_succ, List.setIfInBounds_toArray, List.set_cons_zero, List.set_cons_succ]
        refine wpAnyH_take (i := 13) (v := undef) rfl (by kernel_rfl) (by kernel_rfl) (by kernel_rfl) (fun _ _ _ h => (h : False).elim) (Or.inr ⟨by rfl, rfl⟩) (HS.out _ G0.out) ?_
        try simp only [Act.put, List.getElem_toArray, List.getElem_cons_zero, List.getElem_cons_succ, List.setIfInBounds_toArray, List.set_cons_zero, List.set_cons_succ]
        refine wpAnyH_take (i := 14) (v := undef) rfl (by kernel_rfl) (by kernel_rfl) (by kernel_rfl) (fun _ _ _ h => (h : False).elim) (Or.inr ⟨by rfl, rfl⟩) (HS.out _ G0.out) ?_
        try simp only [Act.put, List.getElem_toArray, List.getElem_cons_zero, List.getElem_cons_succ, List.setIfInBounds_toArray, List.set_cons_zero, List.set_cons_succ]
        refine wpAnyH_take (i := 15) (v := .bool false) rfl (by kernel_rfl) (by kernel_rfl) (by kernel_rfl) (fun _ _ _ h => (h : False).elim) (Or.inl ⟨by rfl, ?_⟩) (HS.out _ G0.out) ?_
        · intro w hSw
          obtain ⟨hs0, hs1, hs2⟩ := hSw
          go_simp
        try simp only [Act.put, List.getElem_toArray, List.getElem_cons_zero, List.getElem_cons_succ, List.setIfInBounds_toArray, List.set_cons_zero, List.set_cons_succ]
        refine wpAnyH_take (i := 16) (v := .bool false) rfl (by kernel_rfl) (by kernel_rfl) (by kernel_rfl) (fun _ _ _ h => (h : False).elim) (Or.inl ⟨by rfl, ?_⟩) (HS.out _ G0.out) ?_
        · intro w hSw
          obtain ⟨hs0, hs1, hs2⟩ := hSw
          go_simp
        try simp only [Act.put, List.getElem_toArray, List.getElem_cons_zero, List.getElem_cons_succ, List.setIfInBounds_toArray, List.set_cons_zero, List.set_cons_succ]
        refine wpAnyH_take (i := 17) (v := .int .i64 k) rfl (by kernel_rfl) (by kernel_rfl) (by kernel_rfl) (fun _ _ _ h => (h : False).elim) (Or.inl ⟨by rfl, ?_⟩) (HS.out _ G0.out) ?_
        · intro w hSw
          obtain ⟨hs0, hs1, hs2⟩ := hSw
          go_simp
        try simp only [Act.put, List.getElem_toArray, List.getElem_cons_zero, List.getElem_cons_succ, List.setIfInBounds_toArray, List.set_cons_zero, List.set_cons_succ]
        refine wpAnyH_take (i := 18) (v := .slice A n cl) rfl (by kernel_rfl) (by kernel_rfl) (by kernel_rfl) (fun _ _ _ h => (h : False).elim) (Or.inl ⟨by rfl, ?_⟩) (HS.out _ G0.out) ?_
        · intro w hSw
          obtain ⟨hs0, hs1, hs2⟩ := hSw
          go_simp
        try simp only [Act.put, List.getElem_toArray, List.getElem_cons_zero, List.getElem_cons_succ, List.setIfInBounds_toArray, List.set_cons_zero, List.set_cons_succ]
        refine wpAnyH_take (i := 19) (v := .int .i64 n) rfl (by kernel_rfl) (by kernel_rfl) (by kernel_rfl) (fun _ _ _ h => (h : False).elim) (Or.inl ⟨by rfl, ?_⟩) (HS.out _ G0.out) ?_
        · intro w hSw
          obtain ⟨hs0, hs1, hs2⟩ := hSw
          go_simp
        try simp only [Act.put, List.getElem_toArray, List.getElem_cons_zero, List.getElem_cons_succ, List.setIfInBounds_toArray, List.set_cons_zero, List.set_cons_succ]
        refine wpAnyH_take (i := 20) (v := .bool true) rfl (by kernel_rfl) (by kernel_rfl) (by kernel_rfl) (fun _ _ _ h => (h : False).elim) (Or.inl ⟨by rfl, ?_⟩) (HS.out _ G0.out) ?_
        · intro w hSw
          obtain ⟨hs0, hs1, hs2⟩ := hSw
          go_simp
        try simp only [Act.put, List.getElem_toArray, List.getElem_cons_zero, List.getElem_cons_succ, List.setIfInBounds_toArray, List.set_cons_zero, List.set_cons_succ]
        refine wpAnyH_take (i := 21) (v := .bool true) rfl (by kernel_rfl) (by kernel_rfl) (by kernel_rfl) (fun _ _ _ h => (h : False).elim) (Or.inl ⟨by rfl, ?_⟩) (HS.out _ G0.out) ?_
        · intro w hSw
          obtain ⟨hs0, hs1, hs2⟩ := hSw
          go_simp
        try simp only [Act.put, List.getElem_toArray, List.getElem_cons_zero, List.getElem_cons_succ, List.setIfInBounds_toArray, List.set_cons_zero, List.set_cons_succ]
        refine wpAnyH_take (i := 22) (v := .slice (some ⟨g, 0, none⟩) q c) rfl (by kernel_rfl) (by kernel_rfl) (by kernel_rfl) (fun _ _ _ h => (h : False).elim) (Or.inl ⟨by rfl, ?_⟩) (HS.out _ G0.out) ?_
        · intro w hSw
          obtain ⟨hs0, hs1, hs2⟩ := hSw
          go_simp
        try simp only [Act.put, List.getElem_toArray, List.getElem_cons_zero, List.getElem_cons_succ, List.setIfInBounds_toArray, List.set_cons_zero, List.set_cons_succ]
        refine wpAnyH_take (i := 23) (v := .int .i64 k) rfl (by kernel_rfl) (by kernel_rfl) (by kernel_rfl) (fun _ _ _ h => (h : False).elim) (Or.inl ⟨by rfl, ?_⟩) (HS.out _ G0.out) ?_
        · intro w hSw
          obtain ⟨hs0, hs1, hs2⟩ := hSw
          go_simp
        try simp only [Act.put, List.getElem_toArray, List.getElem_cons_zero, List.getElem_cons_succ, List.setIfInBounds_toArray, List.set_cons_zero, List.set_cons_succ]
        refine wpAnyH_take (i := 24) (v := .pointer (some ⟨g, k * 3, none⟩)) rfl (by kernel_rfl) (by kernel_rfl) (by kernel_rfl) (fun _ _ _ h => (h : False).elim) (Or.inl ⟨by rfl, ?_⟩) (HS.out _ G0.out) ?_
        · intro w hSw
          obtain ⟨hs0, hs1, hs2⟩ := hSw
          go_simp
        try simp only [Act.put, List.getElem_toArray, List.getElem_cons_zero, List.getElem_cons_succ, List.setIfInBounds_toArray, List.set_cons_zero, List.set_cons_succ]
        refine wpAnyH_take (i := 25) (v := .agg #[.int .i64 mk, .string ⟨#[]⟩, .slice none 0 0]) rfl (by kernel_rfl) (by kernel_rfl) (by kernel_rfl) (fun _ _ _ h => (h : False).elim) (Or.inl ⟨by rfl, ?_⟩) (HS.out _ G0.out) ?_
        · intro w hSw
          obtain ⟨hs0, hs1, hs2⟩ := hSw
          go_simp
        try simp only [Act.put, List.getElem_toArray, List.getElem_cons_zero, List.getElem_cons_succ, List.setIfInBounds_toArray, List.set_cons_zero, List.set_cons_succ]
        refine wpAnyH_take (i := 26) (v := .int .i64 k) rfl (by kernel_rfl) (by kernel_rfl) (by kernel_rfl) (fun _ _ _ h => (h : False).elim) (Or.inl ⟨by rfl, ?_⟩) (HS.out _ G0.out) ?_
        · intro w hSw
          obtain ⟨hs0, hs1, hs2⟩ := hSw
          go_simp
        try simp only [Act.put, List.getElem_toArray, List.getElem_cons_zero, List.getElem_cons_succ, List.setIfInBounds_toArray, List.set_cons_zero, List.set_cons_succ]
        refine wpAnyH_take (i := 27) (v := .slice A n cl) rfl (by kernel_rfl) (by kernel_rfl) (by kernel_rfl) (fun _ _ _ h => (h : False).elim) (Or.inl ⟨by rfl, ?_⟩) (HS.out _ G0.out) ?_
        · intro w hSw
          obtain ⟨hs0, hs1, hs2⟩ := hSw
          go_simp
        try simp only [Act.put, List.getElem_toArray, List.getElem_cons_zero, List.getElem_cons_succ, List.setIfInBounds_toArray, List.set_cons_zero, List.set_cons_succ]
        refine wpAnyH_take (i := 28) (v := .int .i64 n) rfl (by kernel_rfl) (by kernel_rfl) (by kernel_rfl) (fun _ _ _ h => (h : False).elim) (Or.inl ⟨by rfl, ?_⟩) (HS.out _ G0.out) ?_
        · intro w hSw
          obtain ⟨hs0, hs1, hs2⟩ := hSw
          go_simp
        try simp only [Act.put, List.getElem_toArray, List.getElem_cons_zero, List.getElem_cons_succ, List.setIfInBounds_toArray, List.set_cons_zero, List.set_cons_succ]
        refine wpAnyH_take (i := 29) (v := .int .i64 j) rfl (by kernel_rfl) (by kernel_rfl) (by kernel_rfl) (fun _ _ _ h => (h : False).elim) (Or.inl ⟨by rfl, ?_⟩) (HS.out _ G0.out) ?_
        · intro w hSw
          obtain ⟨hs0, hs1, hs2⟩ := hSw
          (go_simp; try rw [hsub]; try rw [hwr])
        try simp only [Act.put, List.getElem_toArray, List.getElem_cons_zero, List.getElem_cons_succ, List.setIfInBounds_toArray, List.set_cons_zero, List.set_cons_succ]
        refine wpAnyH_ready (rs := [30]) (by kernel_rfl) (by simp) ?_
        refine AllReadyH.cons rfl (fun K hK => ?_) AllReadyH.nil
        go_simp
        refine (HMK.out _).mono ?_
        rintro e y1 ⟨rfl, hq⟩
        have G1 := Lib.hid (G0.out.trans (hq.mono G0.out.size))
        clear hq
        refine hK.out _ _ (HS.out _ G1.out) (fun _ => ?_)
        clear hK
        try simp only [Act.put, List.getElem_toArray, List.getElem_cons_zero, List.getElem_cons_succ, List.setIfInBounds_toArray, List.set_cons_zero, List.set_cons_succ]
        refine wpAnyH_ready (rs := [31]) (by kernel_rfl) (by simp) ?_
        refine AllReadyH.cons rfl (fun K hK => ?_) AllReadyH.nil
        go_simp
        refine (HSM.out _ G1.out).mono ?_
        rintro e y2 ⟨rfl, hq⟩
        have G2 := Lib.hid hq
        clear hq
        refine hK.out _ _ (HS.out _ G2.out) (fun _ => ?_)
        clear hK
        try simp only [Act.put, List.getElem_toArray, List.getElem_cons_zero, List.getElem_cons_succ, List.setIfInBounds_toArray, List.set_cons_zero, List.set_cons_succ]
        refine wpAnyH_take (i := 32) (v := .bool false) rfl (by kernel_rfl) (by kernel_rfl) (by kernel_rfl) (fun _ _ _ h => (h : False).elim) (Or.inl ⟨by rfl, ?_⟩) (HS.out _ G2.out) ?_
        · intro w hSw
          obtain ⟨hs0, hs1, hs2⟩ := hSw
          go_simp
        try simp only [Act.put, List.getElem_toArray, List.getElem_cons_zero, List.getElem_cons_succ, List.setIfInBounds_toArray, List.set_cons_zero, List.set_cons_succ]
        refine wpAnyH_take (i := 33) (v := .bool false) rfl (by kernel_rfl) (by kernel_rfl) (by kernel_rfl) (fun _ _ _ h => (h : False).elim) (Or.inl ⟨by rfl, ?_⟩) (HS.out _ G2.out) ?_
        · intro w hSw
          obtain ⟨hs0, hs1, hs2⟩ := hSw
          go_simp
        try simp only [Act.put, List.getElem_toArray, List.getElem_cons_zero, List.getElem_cons_succ, List.setIfInBounds_toArray, List.set_cons_zero, List.set_cons_succ]
        refine wpAnyH_take (i := 34) (v := .bool false) rfl (by kernel_rfl) (by kernel_rfl) (by kernel_rfl) (fun _ _ _ h => (h : False).elim) (Or.inl ⟨by rfl, ?_⟩) (HS.out _ G2.out) ?_
        · intro w hSw
          obtain ⟨hs0, hs1, hs2⟩ := hSw
          go_simp
        try simp only [Act.put, List.getElem_toArray, List.getElem_cons_zero, List.getElem_cons_succ, List.setIfInBounds_toArray, List.set_cons_zero, List.set_cons_succ]
        refine ⟨by kernel_rfl, ?_⟩
        refine NoPanic.normal ?_
        go_wp2_with fail
        go_roundw
        case rel => exact ⟨k + 1, by omega, by go_num, HBE.out.trans (G2.out.mono HBE.out.size)⟩
        case measure => simp [intOf]; omega
    · have hkq : ¬ (k : Int) < (q : Int) := by omega
      clear hbe
      go_wp2_with fail
      go_ret
      exact ⟨rfl, HBE.out⟩

set_option maxRecDepth 100000 in
set_option maxHeartbeats 4000000 in
theorem kept25_any : ∀ x : X, x.sz ≤ 100000 → K25 x := by
  intro x
  induction x using X.ind' with
  | h x ih =>
    intro hsz q N w kv v hlr hq hx hN
    have hle : szL x.kids ≤ 100000 := by have := x.sz_eq; omega
    have hxr := hlr.xr (B := w.heap.size) hq
    have hxv := hx
    obtain ⟨kx, rfl, hkx⟩ := hx
    obtain ⟨W0, hW0⟩ : ∃ W0, (w.alloc (.cells #[.int .i64 x.kind, .string x.lab, kv] 25)).alloc (.cells #[.int .i64 x.kind, .string x.lab, kx] 25) = W0 := ⟨_, rfl⟩
    have hz0 : W0.heap.size = w.heap.size + 2 := by rw [← hW0]; simp
    have hb0 : Below w.heap.size w W0 := by rw [← hW0]; exact ((Below.refl _ w).alloc (Nat.le_refl _) _).alloc (by simp) _
    have hc3 : W0.heap[w.heap.size]? = some (.cells #[.int .i64 x.kind, .string x.lab, kv] 25) := by rw [← hW0, Below.heap_alloc _ _ _ (by simp)]; exact at_push _ _
    have hc4 : W0.heap[w.heap.size + 1]? = some (.cells #[.int .i64 x.kind, .string x.lab, kx] 25) := by
      rw [← hW0]
      have := at_push (w.alloc (.cells #[.int .i64 x.kind, .string x.lab, kv] 25)) (.cells #[.int .i64 x.kind, .string x.lab, kx] 25)
      rwa [World.size_alloc] at this
    have HC := Lib.hid (fun W (h : Below W0.heap.size W0 W) => calls_base (kept45_any (xs := x.kids) (fun y hy => ih y hy (by have := szL_mem hy; omega)) (by have := len_szL x.kids; omega) (hlr.keep (q' := q) (fun b hb => ((hb0.trans (h.mono hb0.size)).block b (hq b hb))) (fun b hb => hb)) (fun b hb => Nat.lt_of_lt_of_le (hq b hb) (Nat.le_trans hb0.size h.size)) (hkx.bel ((hb0.trans (h.mono hb0.size)).mono hN)) (Nat.le_trans hN (Nat.le_trans hb0.size h.size))) h)
    have HSM := Lib.hid (fun W (h : Below W0.heap.size W0 W) => calls_bool2 (same30_any x hsz x w.heap.size W (.agg #[.int .i64 x.kind, .string x.lab, kv]) (.agg #[.int .i64 x.kind, .string x.lab, kx]) ⟨_, rfl, hxr.bel (hb0.trans (h.mono hb0.size))⟩ ((hxv.bel ((hb0.trans (h.mono hb0.size)).mono hN)).mono hN) (Nat.le_trans hb0.size h.size)) h (sameX_true rfl))
    have HB0 := Lib.hid (And.intro hb0 hz0)
    have HBX := Lib.hid (fun W (h : Below W0.heap.size W0 W) => And.intro (box3 ((h.block _ (by omega)).trans hc3)) (box3 ((h.block _ (by omega)).trans hc4)))
    obtain ⟨⟨d0, d1, d2⟩, d3, d4, d5⟩ := HBX.out W0 (Below.refl _ _)
    generalize x.kind = kd at *
    generalize x.lab = lb at *
    clear hc3 hc4 hz0 hb0 hkx hxv hxr hlr ih hq
    go_enter Try.func25, Try.ntmps25
    go_upto_region 1 with (fail)
    try rw [hW0]
    go_wp2_with (first
      | (go_at_call 30; refine (HSM.out _ (Below.refl _ _)).mono ?_; rintro e w1 ⟨rfl, h1⟩; have H1 := Lib.hid h1; obtain ⟨⟨d0, d1, d2⟩, d3, d4, d5⟩ := HBX.out _ h1; clear h1)
      | (go_at_call 45; refine (HC.out _ H1.out).mono ?_; rintro e w2 ⟨rfl, h2⟩; have H2 := Lib.hid h2; clear h2))
    go_ret
    exact ⟨rfl, HB0.out.1.trans (H2.out.mono HB0.out.1.size)⟩
end Go.Proofs.Ytnohnkhhkeikoaa
