/- The reference: whether two expressions are the same. -/
import Derived.Test.YtnohnkhhkeikoaaRA
import Derived.Test.YtnohnkhhkeikoaaSX
namespace Go.Proofs.Ytnohnkhhkeikoaa
open Go.ChangeShapes Go.WideShapes Go.ChangeAt Go.RowKit
set_option linter.unusedVariables false
set_option linter.unusedSimpArgs false

attribute [local go_sem] Oper.semAt_some

def S17 (x : X) : Prop := ∀ (y : X) (N : Nat) (w : World) (va vb : Value), XV N w va x → XV N w vb y → N ≤ w.heap.size → Calls Try.prog 17 #[va, vb] w fun e w' => e = .returned (.bool (sameX x y)) ∧ Below w.heap.size w w'

set_option maxRecDepth 100000 in
set_option maxHeartbeats 4000000 in
theorem rsame_any : ∀ x : X, x.sz ≤ 100000 → S17 x := by
  intro x
  induction x using X.ind' with
  | h x ih =>
    intro hsz y N w va vb ha hb hN
    obtain ⟨kx0, rfl, hkx⟩ := ha
    obtain ⟨ky0, rfl, hky⟩ := hb
    obtain ⟨A1, c1, rfl⟩ := hkx.form
    obtain ⟨A2, c2, rfl⟩ := hky.form
    obtain ⟨n1, hn1⟩ : ∃ n, x.kids.length = n := ⟨_, rfl⟩
    obtain ⟨n2, hn2⟩ : ∃ n, y.kids.length = n := ⟨_, rfl⟩
    have hsx : ∀ b, (x.kind = y.kind → x.lab = y.lab → n1 = n2 → b = sameL x.kids y.kids) → (¬ (x.kind = y.kind ∧ x.lab = y.lab ∧ n1 = n2) → b = false) → sameX x y = b := by
      intro b h1 h2
      by_cases h : x.kind = y.kind ∧ x.lab = y.lab ∧ n1 = n2
      · rw [h1 h.1 h.2.1 h.2.2]
        by_cases hk : x.kids = y.kids
        · rw [sameL_true hk, sameX_true (X.ext' h.1 h.2.1 hk)]
        · rw [sameL_false hk, sameX_false (fun e => hk (by rw [e]))]
      · rw [h2 h, sameX_false (fun e => h (by subst e; exact ⟨rfl, rfl, hn1.symm.trans hn2⟩))]
    have HSX := Lib.hid hsx
    rw [hn1] at hkx ⊢
    rw [hn2] at hky ⊢
    have hle : szL x.kids ≤ 100000 := by have := x.sz_eq; omega
    have hn1k : n1 ≤ 100000 := by have := len_szL x.kids; omega
    have HNN := Lib.hid (And.intro hn1 hn2)
    have HIH := Lib.hid (fun z (hz : z ∈ x.kids) => ih z hz (by have := szL_mem hz; omega))
    obtain ⟨W0, hW0⟩ : ∃ W0, (w.alloc (.cells #[.int .i64 x.kind, .string x.lab, .slice A1 n1 c1] 25)).alloc (.cells #[.int .i64 y.kind, .string y.lab, .slice A2 n2 c2] 25) = W0 := ⟨_, rfl⟩
    have hz0 : W0.heap.size = w.heap.size + 2 := by rw [← hW0]; simp
    have hb0 : Below w.heap.size w W0 := by rw [← hW0]; exact ((Below.refl _ w).alloc (Nat.le_refl _) _).alloc (by simp) _
    have hc3 : W0.heap[w.heap.size]? = some (.cells #[.int .i64 x.kind, .string x.lab, .slice A1 n1 c1] 25) := by rw [← hW0, Below.heap_alloc _ _ _ (by simp)]; exact at_push _ _
    have hc4 : W0.heap[w.heap.size + 1]? = some (.cells #[.int .i64 y.kind, .string y.lab, .slice A2 n2 c2] 25) := by
      rw [← hW0]
      have := at_push (w.alloc (.cells #[.int .i64 x.kind, .string x.lab, .slice A1 n1 c1] 25)) (.cells #[.int .i64 y.kind, .string y.lab, .slice A2 n2 c2] 25)
      rwa [World.size_alloc] at this
    have hxk : XR W0.heap.size W0 (.slice A1 n1 c1) x.kids := (hkx.bel (hb0.mono hN)).mono (by omega)
    have hyk : XR W0.heap.size W0 (.slice A2 n2 c2) y.kids := (hky.bel (hb0.mono hN)).mono (by omega)
    have HB0 := Lib.hid hb0
    have HBX := Lib.hid (fun W (h : Below W0.heap.size W0 W) => And.intro (box3 ((h.block _ (by omega)).trans hc3)) (box3 ((h.block _ (by omega)).trans hc4)))
    have HXA := Lib.hid (fun W (h : Below W0.heap.size W0 W) => hxk.bel h)
    have HXB := Lib.hid (fun W (h : Below W0.heap.size W0 W) => hyk.bel h)
    clear hc3 hc4 hz0 hb0 hxk hyk hkx hky ih hn1 hn2 hsx
    obtain ⟨⟨d0, d1, d2⟩, d3, d4, d5⟩ := HBX.out W0 (Below.refl _ _)
    by_cases hk : x.kind = y.kind
    · by_cases hl : x.lab = y.lab
      · by_cases hn : n1 = n2
        · subst hn
          rw [HSX.out (sameL x.kids y.kids) (fun _ _ _ => rfl) (fun h => absurd ⟨hk, hl, rfl⟩ h)]
          clear HSX
          obtain ⟨xs, hxs⟩ : ∃ xs, x.kids = xs := ⟨_, rfl⟩
          obtain ⟨ys, hys⟩ : ∃ ys, y.kids = ys := ⟨_, rfl⟩
          rw [hxs] at HXA HNN HIH hle ⊢
          rw [hys] at HXB HNN ⊢
          rw [hk] at HBX d0 hW0 ⊢
          rw [hl] at HBX d1 hW0 ⊢
          generalize y.kind = ky1 at *
          generalize y.lab = ly1 at *
          clear hxs hys hk hl
          go_enter Try.func17, Try.ntmps17
          go_upto_region 1 with (fail)
          try rw [hW0]
          go_upto_region 4 with (fail)
          clear d0 d1 d2 d3 d4 d5
          go_loopw [5] (fun u wr => ∃ k : Nat, k ≤ n1 ∧ u = .int .i64 k ∧ (∀ i (h1 : i < xs.length) (h2 : i < ys.length), i < k → xs[i] = ys[i]) ∧ Below W0.heap.size W0 wr) (fun u _ => n1 + 1 - (intOf u).toNat)
          case atStart => exact ⟨0, Nat.zero_le _, rfl, fun i _ _ h => absurd h (Nat.not_lt_zero _), Below.refl _ _⟩
          case round =>
            obtain ⟨k, hk, rfl, hpre, hbr⟩ := hrel
            have HPRE := Lib.hid (And.intro hpre hbr)
            obtain ⟨⟨d0, d1, d2⟩, d3, d4, d5⟩ := HBX.out wr hbr
            clear hpre
            by_cases hkl0 : k < n1
            · have hki : (k : Int) < (n1 : Int) := by omega
              have hkl : k < xs.length := by have := HNN.out.1; omega
              have hky : k < ys.length := by have := HNN.out.2; omega
              go_upto_region 6 with (fail)
              clear d0 d1 d3 d4
              obtain ⟨ad, kx, e1, hbA, a0, a1, a2, hkx⟩ := (HXA.out wr hbr).at3 hkl
              obtain ⟨bd, ky, e2, hbB, b0, b1, b2, hky2⟩ := (HXB.out wr hbr).at3 hky
              subst e1 e2
              have hy17 := HIH.out xs[k] (List.getElem_mem _)
              obtain ⟨x1, hx⟩ : ∃ x, xs[k] = x := ⟨_, rfl⟩
              obtain ⟨y1, hy⟩ : ∃ y, ys[k] = y := ⟨_, rfl⟩
              rw [hx] at a0 a1 hkx hy17
              rw [hy] at b0 b1 hky2
              obtain ⟨r, hr⟩ : ∃ r, sameX x1 y1 = r := ⟨_, rfl⟩
              have hblk : ∀ W, Below wr.heap.size wr W → Below W0.heap.size W0 W := fun W h => hbr.trans (h.mono hbr.size)
              have HS := Lib.hid (fun W (h : Below wr.heap.size wr W) => And.intro (And.intro (HBX.out W (hblk W h)).1.2.2 (HBX.out W (hblk W h)).2.2.2) (And.intro (And.intro ((World.cell?_of_block (h.block _ (by rw [block_add]; have := hbr.size; omega))).trans a0) (And.intro ((World.cell?_of_block (h.block _ (by show (ad.add (k * 3)).block < _; rw [block_add]; have := hbr.size; omega))).trans a1) ((World.cell?_of_block (h.block _ (by show (ad.add (k * 3)).block < _; rw [block_add]; have := hbr.size; omega))).trans a2)))
                (And.intro ((World.cell?_of_block (h.block _ (by rw [block_add]; have := hbr.size; omega))).trans b0) (And.intro ((World.cell?_of_block (h.block _ (by show (bd.add (k * 3)).block < _; rw [block_add]; have := hbr.size; omega))).trans b1) ((World.cell?_of_block (h.block _ (by show (bd.add (k * 3)).block < _; rw [block_add]; have := hbr.size; omega))).trans b2)))))
              have HCALL := Lib.hid (fun W (h : Below wr.heap.size wr W) => (show Calls Try.prog 17 #[.agg #[.int .i64 x1.kind, .string x1.lab, kx], .agg #[.int .i64 y1.kind, .string y1.lab, ky]] W (fun e w' => e = .returned (.bool r) ∧ Below wr.heap.size wr w') by
                have h1 := hy17 y1 W0.heap.size W _ _ (XV.bel ⟨kx, rfl, hkx⟩ (h.mono hbr.size)) (XV.bel ⟨ky, rfl, hky2⟩ (h.mono hbr.size)) (Nat.le_trans hbr.size h.size)
                rw [hr] at h1
                exact calls_base h1 h))
              have HXY := Lib.hid (And.intro hx (And.intro hy hr))
              clear hx hy hr hkx hky2 hy17 a0 a1 a2 b0 b1 b2 d2 d5 hblk
              have G0 := Lib.hid (Below.refl wr.heap.size wr).drew
              refine wp_region_noPanic ?_
              refine wp_region_held_drew (S := fun W => ((W.cell? ⟨w.heap.size, 2, none⟩ = some (.slice (some ad) n1 c1) ∧ W.cell? ⟨w.heap.size + 1, 2, none⟩ = some (.slice (some bd) n1 c2)) ∧ (W.cell? (ad.add (k * 3)) = some (.int .i64 x1.kind) ∧ W.cell? ⟨(ad.add (k * 3)).block, (ad.add (k * 3)).off + 1, none⟩ = some (.string x1.lab) ∧ W.cell? ⟨(ad.add (k * 3)).block, (ad.add (k * 3)).off + 2, none⟩ = some kx) ∧ W.cell? (bd.add (k * 3)) = some (.int .i64 y1.kind) ∧ W.cell? ⟨(bd.add (k * 3)).block, (bd.add (k * 3)).off + 1, none⟩ = some (.string y1.lab) ∧ W.cell? ⟨(bd.add (k * 3)).block, (bd.add (k * 3)).off + 2, none⟩ = some ky)) (by kernel_rfl) (HS.out _ G0.out) (fun hHeld => ?_)
              clear hHeld
              refine wpAnyH_take (i := 0) (v := .pointer (some ⟨w.heap.size, 2, none⟩)) rfl (by kernel_rfl) (by kernel_rfl) (by kernel_rfl) (fun _ _ _ h => (h : False).elim) (Or.inl ⟨by rfl, ?_⟩) (HS.out _ G0.out) ?_
              · intro w hSw
                obtain ⟨⟨hq0, hq1⟩, ⟨hs0, hs1, hs2⟩, hs3, hs4, hs5⟩ := hSw
                go_simp
              try simp only [Act.put, List.getElem_toArray, List.getElem_cons_zero, List.getElem_cons_succ, List.setIfInBounds_toArray, List.set_cons_zero, List.set_cons_succ]
              refine wpAnyH_take (i := 1) (v := .slice (some ad) n1 c1) rfl (by kernel_rfl) (by kernel_rfl) (by kernel_rfl) (fun _ _ _ h => (h : False).elim) (Or.inl ⟨by rfl, ?_⟩) (HS.out _ G0.out) ?_
              · intro w hSw
                obtain ⟨⟨hq0, hq1⟩, ⟨hs0, hs1, hs2⟩, hs3, hs4, hs5⟩ := hSw
                go_simp
              try simp only [Act.put, List.getElem_toArray, List.getElem_cons_zero, List.getElem_cons_succ, List.setIfInBounds_toArray, List.set_cons_zero, List.set_cons_succ]
              refine wpAnyH_take (i := 2) (v := .int .i64 k) rfl (by kernel_rfl) (by kernel_rfl) (by kernel_rfl) (fun _ _ _ h => (h : False).elim) (Or.inl ⟨by rfl, ?_⟩) (HS.out _ G0.out) ?_
              · intro w hSw
                obtain ⟨⟨hq0, hq1⟩, ⟨hs0, hs1, hs2⟩, hs3, hs4, hs5⟩ := hSw
                go_simp
              try simp only [Act.put, List.getElem_toArray, List.getElem_cons_zero, List.getElem_cons_succ, List.setIfInBounds_toArray, List.set_cons_zero, List.set_cons_succ]
              refine wpAnyH_take (i := 3) (v := .pointer (some (ad.add (k * 3)))) rfl (by kernel_rfl) (by kernel_rfl) (by kernel_rfl) (fun _ _ _ h => (h : False).elim) (Or.inl ⟨by rfl, ?_⟩) (HS.out _ G0.out) ?_
              · intro w hSw
                obtain ⟨⟨hq0, hq1⟩, ⟨hs0, hs1, hs2⟩, hs3, hs4, hs5⟩ := hSw
                go_simp
              try simp only [Act.put, List.getElem_toArray, List.getElem_cons_zero, List.getElem_cons_succ, List.setIfInBounds_toArray, List.set_cons_zero, List.set_cons_succ]
              refine wpAnyH_take (i := 4) (v := .agg #[.int .i64 x1.kind, .string x1.lab, kx]) rfl (by kernel_rfl) (by kernel_rfl) (by kernel_rfl) (fun _ _ _ h => (h : False).elim) (Or.inl ⟨by rfl, ?_⟩) (HS.out _ G0.out) ?_
              · intro w hSw
                obtain ⟨⟨hq0, hq1⟩, ⟨hs0, hs1, hs2⟩, hs3, hs4, hs5⟩ := hSw
                go_simp
              try simp only [Act.put, List.getElem_toArray, List.getElem_cons_zero, List.getElem_cons_succ, List.setIfInBounds_toArray, List.set_cons_zero, List.set_cons_succ]
              refine wpAnyH_take (i := 5) (v := .pointer (some ⟨w.heap.size + 1, 2, none⟩)) rfl (by kernel_rfl) (by kernel_rfl) (by kernel_rfl) (fun _ _ _ h => (h : False).elim) (Or.inl ⟨by rfl, ?_⟩) (HS.out _ G0.out) ?_
              · intro w hSw
                obtain ⟨⟨hq0, hq1⟩, ⟨hs0, hs1, hs2⟩, hs3, hs4, hs5⟩ := hSw
                go_simp
              try simp only [Act.put, List.getElem_toArray, List.getElem_cons_zero, List.getElem_cons_succ, List.setIfInBounds_toArray, List.set_cons_zero, List.set_cons_succ]
              refine wpAnyH_take (i := 6) (v := .slice (some bd) n1 c2) rfl (by kernel_rfl) (by kernel_rfl) (by kernel_rfl) (fun _ _ _ h => (h : False).elim) (Or.inl ⟨by rfl, ?_⟩) (HS.out _ G0.out) ?_
              · intro w hSw
                obtain ⟨⟨hq0, hq1⟩, ⟨hs0, hs1, hs2⟩, hs3, hs4, hs5⟩ := hSw
                go_simp
              try simp only [Act.put, List.getElem_toArray, List.getElem_cons_zero, List.getElem_cons_succ, List.setIfInBounds_toArray, List.set_cons_zero, List.set_cons_succ]
              refine wpAnyH_take (i := 7) (v := .int .i64 k) rfl (by kernel_rfl) (by kernel_rfl) (by kernel_rfl) (fun _ _ _ h => (h : False).elim) (Or.inl ⟨by rfl, ?_⟩) (HS.out _ G0.out) ?_
              · intro w hSw
                obtain ⟨⟨hq0, hq1⟩, ⟨hs0, hs1, hs2⟩, hs3, hs4, hs5⟩ := hSw
                go_simp
              try simp only [Act.put, List.getElem_toArray, List.getElem_cons_zero, List.getElem_cons_succ, List.setIfInBounds_toArray, List.set_cons_zero, List.set_cons_succ]
              refine wpAnyH_take (i := 8) (v := .pointer (some (bd.add (k * 3)))) rfl (by kernel_rfl) (by kernel_rfl) (by kernel_rfl) (fun _ _ _ h => (h : False).elim) (Or.inl ⟨by rfl, ?_⟩) (HS.out _ G0.out) ?_
              · intro w hSw
                obtain ⟨⟨hq0, hq1⟩, ⟨hs0, hs1, hs2⟩, hs3, hs4, hs5⟩ := hSw
                go_simp
              try simp only [Act.put, List.getElem_toArray, List.getElem_cons_zero, List.getElem_cons_succ, List.setIfInBounds_toArray, List.set_cons_zero, List.set_cons_succ]
              refine wpAnyH_take (i := 9) (v := .agg #[.int .i64 y1.kind, .string y1.lab, ky]) rfl (by kernel_rfl) (by kernel_rfl) (by kernel_rfl) (fun _ _ _ h => (h : False).elim) (Or.inl ⟨by rfl, ?_⟩) (HS.out _ G0.out) ?_
              · intro w hSw
                obtain ⟨⟨hq0, hq1⟩, ⟨hs0, hs1, hs2⟩, hs3, hs4, hs5⟩ := hSw
                go_simp
              try simp only [Act.put, List.getElem_toArray, List.getElem_cons_zero, List.getElem_cons_succ, List.setIfInBounds_toArray, List.set_cons_zero, List.set_cons_succ]
              refine wpAnyH_ready (rs := [10]) (by kernel_rfl) (by simp) ?_
              refine AllReadyH.cons rfl (fun K hK => ?_) AllReadyH.nil
              go_simp
              refine (HCALL.out _ G0.out).mono ?_
              rintro e w3 ⟨rfl, hq⟩
              have G8 := Lib.hid hq
              clear hq
              refine hK.out _ _ (HS.out _ G8.out) (fun _ => ?_)
              clear hK
              try simp only [Act.put, List.getElem_toArray, List.getElem_cons_zero, List.getElem_cons_succ, List.setIfInBounds_toArray, List.set_cons_zero, List.set_cons_succ]
              refine wpAnyH_take (i := 11) (v := .bool (!r)) rfl (by kernel_rfl) (by kernel_rfl) (by kernel_rfl) (fun _ _ _ h => (h : False).elim) (Or.inl ⟨by rfl, ?_⟩) (HS.out _ G8.out) ?_
              · intro w hSw
                obtain ⟨⟨hq0, hq1⟩, ⟨hs0, hs1, hs2⟩, hs3, hs4, hs5⟩ := hSw
                go_simp
              try simp only [Act.put, List.getElem_toArray, List.getElem_cons_zero, List.getElem_cons_succ, List.setIfInBounds_toArray, List.set_cons_zero, List.set_cons_succ]
              refine ⟨by kernel_rfl, ?_⟩
              refine NoPanic.normal ?_
              cases r with
              | true =>
                go_wp2_with fail
                go_roundw
                case rel =>
                  refine ⟨k + 1, by omega, by go_num, fun i h1 h2 hi => ?_, HPRE.out.2.trans (G8.out.mono HPRE.out.2.size)⟩
                  by_cases hik : i = k
                  · subst hik
                    rw [HXY.out.1, HXY.out.2.1]
                    exact sameX_iff.1 HXY.out.2.2
                  · exact HPRE.out.1 i h1 h2 (by omega)
                case measure => simp [intOf]; omega
              | false =>
                go_wp2_with fail
                go_ret
                have hne : xs ≠ ys := fun e => by
                  have h1 : x1 = y1 := by
                    rw [← HXY.out.1, ← HXY.out.2.1]
                    subst e
                    rfl
                  have h2 := HXY.out.2.2
                  rw [sameX_true h1] at h2
                  cases h2
                refine ⟨?_, HB0.out.trans ((HPRE.out.2.trans (G8.out.mono HPRE.out.2.size)).mono HB0.out.size)⟩
                rw [sameL_false hne]
                rfl
            · have hki : ¬ (k : Int) < (n1 : Int) := by omega
              go_wp2_with fail
              go_ret
              refine ⟨?_, HB0.out.trans (HPRE.out.2.mono HB0.out.size)⟩
              rw [sameL_true (List.ext_getElem (HNN.out.1.trans HNN.out.2.symm) fun i h1 h2 => HPRE.out.1 i h1 h2 (by have := HNN.out.1; omega))]
              rfl
        · have hli : (n1 : Int) ≠ (n2 : Int) := by omega
          rw [HSX.out false (fun _ _ h => absurd h hn) (fun _ => rfl)]
          rw [hk] at HBX d0 hW0 ⊢
          rw [hl] at HBX d1 hW0 ⊢
          generalize y.kind = ky1 at *
          generalize y.lab = ly1 at *
          clear hk hl HSX HNN HIH HXA HXB hle hn hsz
          go_enter Try.func17, Try.ntmps17
          go_upto_region 1 with (fail)
          try rw [hW0]
          go_wp2_with fail
          go_ret
          exact ⟨rfl, HB0.out⟩
      · have hs' : x.lab.toList ≠ y.lab.toList := fun h => hl (by
          have : x.lab.data.toList = y.lab.data.toList := by rw [← ByteArray.toList_eq, ← ByteArray.toList_eq]; exact h
          exact ByteArray.ext (Array.toList_inj.1 this))
        have hbe : (x.lab.toList == y.lab.toList) = false := by simp [hs']
        rw [HSX.out false (fun _ h _ => absurd h hl) (fun _ => rfl)]
        rw [hk] at HBX d0 hW0 ⊢
        generalize y.kind = ky1 at *
        generalize x.lab = lx1 at *
        generalize y.lab = ly1 at *
        clear hk HSX HNN HIH HXA HXB hle hsz
        go_enter Try.func17, Try.ntmps17
        go_upto_region 1 with (fail)
        try rw [hW0]
        go_wp2_with fail
        go_ret
        exact ⟨rfl, HB0.out⟩
    · have hbe : (x.kind == y.kind) = false := by simp [hk]
      rw [HSX.out false (fun h _ _ => absurd h hk) (fun _ => rfl)]
      generalize x.kind = kx1 at *
      generalize y.kind = ky1 at *
      generalize x.lab = lx1 at *
      generalize y.lab = ly1 at *
      clear HSX HNN HIH HXA HXB hle hsz
      go_enter Try.func17, Try.ntmps17
      go_upto_region 1 with (fail)
      try rw [hW0]
      go_wp2_with fail
      go_ret
      exact ⟨rfl, HB0.out⟩
end Go.Proofs.Ytnohnkhhkeikoaa
