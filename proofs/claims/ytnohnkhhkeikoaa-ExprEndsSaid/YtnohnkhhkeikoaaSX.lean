/- The kit's SameExpr: whether two expressions are the same. -/
import Derived.Test.YtnohnkhhkeikoaaHB
namespace Go.Proofs.Ytnohnkhhkeikoaa
open Go.ChangeShapes Go.WideShapes Go.ChangeAt Go.RowKit
set_option linter.unusedVariables false
set_option linter.unusedSimpArgs false

attribute [local go_sem] Oper.semAt_some

noncomputable def sameL (xs ys : List X) : Bool := @decide (xs = ys) (Classical.propDecidable _)
theorem sameL_true {x y : List X} (h : x = y) : sameL x y = true := @decide_eq_true _ (Classical.propDecidable _) h
theorem sameL_false {x y : List X} (h : x ≠ y) : sameL x y = false := @decide_eq_false _ (Classical.propDecidable _) h

def S30 (x : X) : Prop := ∀ (y : X) (N : Nat) (w : World) (va vb : Value), XV N w va x → XV N w vb y → N ≤ w.heap.size → Calls Try.prog 30 #[va, vb] w fun e w' => e = .returned (.bool (sameX x y)) ∧ Below w.heap.size w w'

set_option maxRecDepth 100000 in
set_option maxHeartbeats 4000000 in
theorem same46_any {xs : List X} (hxs : ∀ x ∈ xs, S30 x) (hl : xs.length ≤ 100000) {ys : List X} {N : Nat} {w : World} {va vb : Value} (ha : XR N w va xs) (hb : XR N w vb ys) (hN : N ≤ w.heap.size) :
    Calls Try.prog 46 #[va, vb] w fun e w' => e = .returned (.bool (sameL xs ys)) ∧ Below w.heap.size w w' := by
  obtain ⟨A1, c1, rfl⟩ := ha.form
  obtain ⟨A2, c2, rfl⟩ := hb.form
  obtain ⟨n1, hn1⟩ : ∃ n1, xs.length = n1 := ⟨_, rfl⟩
  obtain ⟨n2, hn2⟩ : ∃ n2, ys.length = n2 := ⟨_, rfl⟩
  rw [hn1] at ha hl ⊢
  rw [hn2] at hb ⊢
  have HXA := Lib.hid (fun W (h : Below w.heap.size w W) => ha.bel (h.mono hN))
  have HXB := Lib.hid (fun W (h : Below w.heap.size w W) => hb.bel (h.mono hN))
  have HNN := Lib.hid (And.intro hn1 hn2)
  clear ha hb hn1 hn2
  by_cases hlen : n1 = n2
  · subst hlen
    go_enter Try.func46, Try.ntmps46
    go_upto_region 4 with (fail)
    go_loopw [5] (fun u wr => ∃ k : Nat, k ≤ n1 ∧ u = .int .i64 k ∧ (∀ i (h1 : i < xs.length) (h2 : i < ys.length), i < k → xs[i] = ys[i]) ∧ Below w.heap.size w wr) (fun u _ => n1 - (intOf u).toNat)
    case atStart => exact ⟨0, Nat.zero_le _, rfl, fun i _ _ h => absurd h (Nat.not_lt_zero _), Below.refl _ _⟩
    case round =>
      obtain ⟨k, hk, rfl, hpre, hbr⟩ := hrel
      have HPRE := Lib.hid (And.intro hpre hbr)
      clear hpre
      by_cases hkl0 : k < n1
      · have hki : (k : Int) < (n1 : Int) := by omega
        have hkl : k < xs.length := by have := HNN.out.1; omega
        have hky : k < ys.length := by have := HNN.out.2; omega
        obtain ⟨ad, kx, e1, hbA, a0, a1, a2, hkx⟩ := (HXA.out wr hbr).at3 hkl
        obtain ⟨bd, ky, e2, hbB, b0, b1, b2, hky2⟩ := (HXB.out wr hbr).at3 hky
        subst e1 e2
        have hy30 := hxs xs[k] (List.getElem_mem _)
        obtain ⟨x, hx⟩ : ∃ x, xs[k] = x := ⟨_, rfl⟩
        obtain ⟨y, hy⟩ : ∃ y, ys[k] = y := ⟨_, rfl⟩
        rw [hx] at a0 a1 hkx hy30
        rw [hy] at b0 b1 hky2
        obtain ⟨r, hr⟩ : ∃ r, sameX x y = r := ⟨_, rfl⟩
        have hNr : N ≤ wr.heap.size := Nat.le_trans hN hbr.size
        have HS := Lib.hid (fun W (h : Below wr.heap.size wr W) => And.intro (And.intro ((World.cell?_of_block (h.block _ (by rw [block_add]; omega))).trans a0) (And.intro ((World.cell?_of_block (h.block _ (by show (ad.add (k * 3)).block < _; rw [block_add]; omega))).trans a1) ((World.cell?_of_block (h.block _ (by show (ad.add (k * 3)).block < _; rw [block_add]; omega))).trans a2)))
          (And.intro ((World.cell?_of_block (h.block _ (by rw [block_add]; omega))).trans b0) (And.intro ((World.cell?_of_block (h.block _ (by show (bd.add (k * 3)).block < _; rw [block_add]; omega))).trans b1) ((World.cell?_of_block (h.block _ (by show (bd.add (k * 3)).block < _; rw [block_add]; omega))).trans b2))))
        have HCALL := Lib.hid (fun W (h : Below wr.heap.size wr W) => (show Calls Try.prog 30 #[.agg #[.int .i64 x.kind, .string x.lab, kx], .agg #[.int .i64 y.kind, .string y.lab, ky]] W (fun e w' => e = .returned (.bool r) ∧ Below wr.heap.size wr w') by
          have h1 := hy30 y N W _ _ (XV.bel ⟨kx, rfl, hkx⟩ (h.mono hNr)) (XV.bel ⟨ky, rfl, hky2⟩ (h.mono hNr)) (Nat.le_trans hNr h.size)
          rw [hr] at h1
          exact calls_base h1 h))
        have HXY := Lib.hid (And.intro hx (And.intro hy hr))
        clear hx hy hr hkx hky2 hy30 a0 a1 a2 b0 b1 b2
        go_upto_region 6 with (fail)
        have G0 := Lib.hid (Below.refl wr.heap.size wr).drew
        refine wp_region_noPanic ?_
        refine wp_region_held_drew (S := fun W => ((W.cell? (ad.add (k * 3)) = some (.int .i64 x.kind) ∧ W.cell? ⟨(ad.add (k * 3)).block, (ad.add (k * 3)).off + 1, none⟩ = some (.string x.lab) ∧ W.cell? ⟨(ad.add (k * 3)).block, (ad.add (k * 3)).off + 2, none⟩ = some kx) ∧ W.cell? (bd.add (k * 3)) = some (.int .i64 y.kind) ∧ W.cell? ⟨(bd.add (k * 3)).block, (bd.add (k * 3)).off + 1, none⟩ = some (.string y.lab) ∧ W.cell? ⟨(bd.add (k * 3)).block, (bd.add (k * 3)).off + 2, none⟩ = some ky)) (by kernel_rfl) (HS.out _ G0.out) (fun hHeld => ?_)
        clear hHeld
        refine wpAnyH_take (i := 0) (v := .slice (some ad) n1 c1) rfl (by kernel_rfl) (by kernel_rfl) (by kernel_rfl) (fun _ _ _ h => (h : False).elim) (Or.inl ⟨by rfl, ?_⟩) (HS.out _ G0.out) ?_
        · intro w hSw
          obtain ⟨⟨hs0, hs1, hs2⟩, hs3, hs4, hs5⟩ := hSw
          go_simp
        try simp only [Act.put, List.getElem_toArray, List.getElem_cons_zero, List.getElem_cons_succ, List.setIfInBounds_toArray, List.set_cons_zero, List.set_cons_succ]
        refine wpAnyH_take (i := 1) (v := .int .i64 k) rfl (by kernel_rfl) (by kernel_rfl) (by kernel_rfl) (fun _ _ _ h => (h : False).elim) (Or.inl ⟨by rfl, ?_⟩) (HS.out _ G0.out) ?_
        · intro w hSw
          obtain ⟨⟨hs0, hs1, hs2⟩, hs3, hs4, hs5⟩ := hSw
          go_simp
        try simp only [Act.put, List.getElem_toArray, List.getElem_cons_zero, List.getElem_cons_succ, List.setIfInBounds_toArray, List.set_cons_zero, List.set_cons_succ]
        refine wpAnyH_take (i := 2) (v := .pointer (some (ad.add (k * 3)))) rfl (by kernel_rfl) (by kernel_rfl) (by kernel_rfl) (fun _ _ _ h => (h : False).elim) (Or.inl ⟨by rfl, ?_⟩) (HS.out _ G0.out) ?_
        · intro w hSw
          obtain ⟨⟨hs0, hs1, hs2⟩, hs3, hs4, hs5⟩ := hSw
          go_simp
        try simp only [Act.put, List.getElem_toArray, List.getElem_cons_zero, List.getElem_cons_succ, List.setIfInBounds_toArray, List.set_cons_zero, List.set_cons_succ]
        refine wpAnyH_take (i := 3) (v := .agg #[.int .i64 x.kind, .string x.lab, kx]) rfl (by kernel_rfl) (by kernel_rfl) (by kernel_rfl) (fun _ _ _ h => (h : False).elim) (Or.inl ⟨by rfl, ?_⟩) (HS.out _ G0.out) ?_
        · intro w hSw
          obtain ⟨⟨hs0, hs1, hs2⟩, hs3, hs4, hs5⟩ := hSw
          go_simp
        try simp only [Act.put, List.getElem_toArray, List.getElem_cons_zero, List.getElem_cons_succ, List.setIfInBounds_toArray, List.set_cons_zero, List.set_cons_succ]
        refine wpAnyH_take (i := 4) (v := .slice (some bd) n1 c2) rfl (by kernel_rfl) (by kernel_rfl) (by kernel_rfl) (fun _ _ _ h => (h : False).elim) (Or.inl ⟨by rfl, ?_⟩) (HS.out _ G0.out) ?_
        · intro w hSw
          obtain ⟨⟨hs0, hs1, hs2⟩, hs3, hs4, hs5⟩ := hSw
          go_simp
        try simp only [Act.put, List.getElem_toArray, List.getElem_cons_zero, List.getElem_cons_succ, List.setIfInBounds_toArray, List.set_cons_zero, List.set_cons_succ]
        refine wpAnyH_take (i := 5) (v := .int .i64 k) rfl (by kernel_rfl) (by kernel_rfl) (by kernel_rfl) (fun _ _ _ h => (h : False).elim) (Or.inl ⟨by rfl, ?_⟩) (HS.out _ G0.out) ?_
        · intro w hSw
          obtain ⟨⟨hs0, hs1, hs2⟩, hs3, hs4, hs5⟩ := hSw
          go_simp
        try simp only [Act.put, List.getElem_toArray, List.getElem_cons_zero, List.getElem_cons_succ, List.setIfInBounds_toArray, List.set_cons_zero, List.set_cons_succ]
        refine wpAnyH_take (i := 6) (v := .pointer (some (bd.add (k * 3)))) rfl (by kernel_rfl) (by kernel_rfl) (by kernel_rfl) (fun _ _ _ h => (h : False).elim) (Or.inl ⟨by rfl, ?_⟩) (HS.out _ G0.out) ?_
        · intro w hSw
          obtain ⟨⟨hs0, hs1, hs2⟩, hs3, hs4, hs5⟩ := hSw
          go_simp
        try simp only [Act.put, List.getElem_toArray, List.getElem_cons_zero, List.getElem_cons_succ, List.setIfInBounds_toArray, List.set_cons_zero, List.set_cons_succ]
        refine wpAnyH_take (i := 7) (v := .agg #[.int .i64 y.kind, .string y.lab, ky]) rfl (by kernel_rfl) (by kernel_rfl) (by kernel_rfl) (fun _ _ _ h => (h : False).elim) (Or.inl ⟨by rfl, ?_⟩) (HS.out _ G0.out) ?_
        · intro w hSw
          obtain ⟨⟨hs0, hs1, hs2⟩, hs3, hs4, hs5⟩ := hSw
          go_simp
        try simp only [Act.put, List.getElem_toArray, List.getElem_cons_zero, List.getElem_cons_succ, List.setIfInBounds_toArray, List.set_cons_zero, List.set_cons_succ]
        refine wpAnyH_ready (rs := [8]) (by kernel_rfl) (by simp) ?_
        refine AllReadyH.cons rfl (fun K hK => ?_) AllReadyH.nil
        go_simp
        refine (HCALL.out _ G0.out).mono ?_
        rintro e w3 ⟨rfl, hq⟩
        have G8 := Lib.hid hq
        clear hq
        refine hK.out _ _ (HS.out _ G8.out) (fun _ => ?_)
        clear hK
        try simp only [Act.put, List.getElem_toArray, List.getElem_cons_zero, List.getElem_cons_succ, List.setIfInBounds_toArray, List.set_cons_zero, List.set_cons_succ]
        refine wpAnyH_take (i := 9) (v := .bool (!r)) rfl (by kernel_rfl) (by kernel_rfl) (by kernel_rfl) (fun _ _ _ h => (h : False).elim) (Or.inl ⟨by rfl, ?_⟩) (HS.out _ G8.out) ?_
        · intro w hSw
          obtain ⟨⟨hs0, hs1, hs2⟩, hs3, hs4, hs5⟩ := hSw
          go_simp
        try simp only [Act.put, List.getElem_toArray, List.getElem_cons_zero, List.getElem_cons_succ, List.setIfInBounds_toArray, List.set_cons_zero, List.set_cons_succ]
        refine ⟨by kernel_rfl, ?_⟩
        refine NoPanic.normal ?_
        cases r with
        | true =>
          go_wp2_with fail
          go_roundw
          case rel =>
            refine ⟨k + 1, by omega, by go_num, fun i h1 h2 hi => ?_, HPRE.out.2.trans (G8.out.mono HPRE.out.2.size)⟩
            by_cases hik : i = k
            · subst hik
              rw [HXY.out.1, HXY.out.2.1]
              exact sameX_iff.1 HXY.out.2.2
            · exact HPRE.out.1 i h1 h2 (by omega)
          case measure => simp [intOf]; omega
        | false =>
          go_wp2_with fail
          go_ret
          have hne : xs ≠ ys := fun e => by
            have h1 : x = y := by
              rw [← HXY.out.1, ← HXY.out.2.1]
              subst e
              rfl
            have h2 := HXY.out.2.2
            rw [sameX_true h1] at h2
            cases h2
          refine ⟨?_, HPRE.out.2.trans (G8.out.mono HPRE.out.2.size)⟩
          rw [sameL_false hne]
          rfl
      · have hki : ¬ (k : Int) < (n1 : Int) := by omega
        go_wp2_with fail
        go_ret
        refine ⟨?_, HPRE.out.2⟩
        rw [sameL_true (List.ext_getElem (HNN.out.1.trans HNN.out.2.symm) fun i h1 h2 => HPRE.out.1 i h1 h2 (by have := HNN.out.1; omega))]
        rfl
  · have hli : (n1 : Int) ≠ (n2 : Int) := by omega
    go_enter Try.func46, Try.ntmps46
    go_wp2_with fail
    go_ret
    exact ⟨by rw [sameL_false (fun e => hlen (by rw [← HNN.out.1, ← HNN.out.2, e]))]; rfl, Below.refl _ _⟩

set_option maxRecDepth 100000 in
set_option maxHeartbeats 4000000 in
theorem same30_any : ∀ x : X, x.sz ≤ 100000 → S30 x := by
  intro x
  induction x using X.ind' with
  | h x ih =>
    intro hsz y N w va vb ha hb hN
    have hk46 : ∀ W, Below w.heap.size w W → ∀ kx ky, XR N W kx x.kids → XR N W ky y.kids → Calls Try.prog 46 #[kx, ky] W fun e w' => e = .returned (.bool (sameL x.kids y.kids)) ∧ Below w.heap.size w w' := fun W h kx ky h1 h2 =>
      (same46_any (fun z hz => ih z hz (by have := szL_mem hz; have := x.sz_eq; omega)) (by have := len_szL x.kids; have := x.sz_eq; omega) h1 h2 (Nat.le_trans hN h.size)).mono (by rintro e w1 ⟨rfl, h1⟩; exact ⟨rfl, h.trans (h1.mono h.size)⟩)
    obtain ⟨kx, rfl, hkx⟩ := ha
    obtain ⟨ky, rfl, hky⟩ := hb
    have hb0 : Below w.heap.size w ((w.alloc (.cells #[.int .i64 x.kind, .string x.lab, kx] 25)).alloc (.cells #[.int .i64 y.kind, .string y.lab, ky] 25)) := ((Below.refl _ w).alloc (Nat.le_refl _) _).alloc (by simp) _
    have HB0 := Lib.hid hb0
    have H46 := Lib.hid (hk46 _ hb0 kx ky (hkx.bel (hb0.mono hN)) (hky.bel (hb0.mono hN)))
    clear hk46 hb0 hkx hky ih
    have hsx : ∀ b, ((x.kind = y.kind ∧ x.lab = y.lab) → b = sameL x.kids y.kids) → (¬ (x.kind = y.kind ∧ x.lab = y.lab) → b = false) → sameX x y = b := by
      intro b h1 h2
      by_cases h : x.kind = y.kind ∧ x.lab = y.lab
      · rw [h1 h]
        by_cases hk : x.kids = y.kids
        · rw [sameL_true hk, sameX_true (X.ext' h.1 h.2 hk)]
        · rw [sameL_false hk, sameX_false (fun e => hk (by rw [e]))]
      · rw [h2 h, sameX_false (fun e => h (by rw [e]; exact ⟨rfl, rfl⟩))]
    have HSX := Lib.hid hsx
    clear hsx
    by_cases h1 : x.kind = y.kind
    · by_cases h2 : x.lab = y.lab
      · have HE := Lib.hid (And.intro h1 h2)
        obtain ⟨kk, hkk⟩ : ∃ kk, y.kind = kk := ⟨_, rfl⟩
        obtain ⟨ll, hll⟩ : ∃ ll, y.lab = ll := ⟨_, rfl⟩
        rw [h1, h2, hkk, hll] at H46 HB0
        rw [h1, h2, hkk, hll]
        clear h1 h2 hkk hll
        go_enter Try.func30, Try.ntmps30
        go_wp2_with (go_at_call 46; refine H46.out.mono ?_; rintro e w1 ⟨rfl, hq⟩; have HQ := Lib.hid hq; clear hq)
        go_ret
        exact ⟨by rw [HSX.out (sameL x.kids y.kids) (fun _ => rfl) (fun h => absurd HE.out h)]; rfl, HQ.out⟩
      · have hs' : x.lab.toList ≠ y.lab.toList := fun h => h2 (by
          have : x.lab.data.toList = y.lab.data.toList := by rw [← ByteArray.toList_eq, ← ByteArray.toList_eq]; exact h
          exact ByteArray.ext (Array.toList_inj.1 this))
        have hbe : (x.lab.toList == y.lab.toList) = false := by simp [hs']
        have HE := Lib.hid h2
        obtain ⟨kk, hkk⟩ : ∃ kk, y.kind = kk := ⟨_, rfl⟩
        rw [h1, hkk] at HB0
        rw [h1, hkk]
        clear h1 h2 hkk H46
        go_enter Try.func30, Try.ntmps30
        go_wp2_with fail
        go_ret
        exact ⟨by rw [HSX.out false (fun h => absurd h.2 HE.out) (fun _ => rfl)]; rfl, HB0.out⟩
    · have hbe : (x.kind == y.kind) = false := by simp [h1]
      have HE := Lib.hid h1
      clear H46
      go_enter Try.func30, Try.ntmps30
      go_wp2_with fail
      go_ret
      exact ⟨by rw [HSX.out false (fun h => absurd h.1 HE.out) (fun _ => rfl)]; rfl, HB0.out⟩
end Go.Proofs.Ytnohnkhhkeikoaa
