/- ExprEnds: the walk. -/
import Derived.Test.YtnohnkhhkeikoaaEE
namespace Go.Proofs.Ytnohnkhhkeikoaa
open Go.ChangeShapes Go.WideShapes Go.ChangeAt Go.RowKit
set_option linter.unusedVariables false
set_option linter.unusedSimpArgs false

attribute [local go_sem] Oper.semAt_some

set_option maxRecDepth 100000 in
set_option maxHeartbeats 16000000 in
theorem ends_any (w : World) : Calls Try.prog 4 #[] w fun e w' => e = .returned (.bool true) ∧ Below w.heap.size w w' := by
  go_enter Try.func4, Try.ntmps4
  go_upto_region 2 with (fail)
  go_loopw [1, 2, 3, 4, 5] (fun u1 u2 u3 u4 u5 wr => ∃ n : Nat, n ≤ 512 ∧ u1 = .int .i64 n ∧ Below w.heap.size w wr) (fun u1 u2 u3 u4 u5 _ => 513 - (intOf u1).toNat)
  case atStart => exact ⟨0, Nat.zero_le _, rfl, Below.refl _ _⟩
  case round =>
    obtain ⟨n, hn, rfl, hb⟩ := hrel
    have HBA := Lib.hid hb
    clear hb
    by_cases hn5 : n < 512
    · have hni : (n : Int) < 512 := by omega
      have HSM := Lib.hid (fun W => (show Calls Try.prog 27 #[.int .i64 (n : Int), .int .i64 2] W (S27 7 W) from small27_any 2 (by omega) n (by omega) W))
      have hn2 : (n : Int) / 2 = ((n / 2 : Nat) : Int) := by omega
      have HSM2 := Lib.hid (fun W => (show Calls Try.prog 27 #[.int .i64 ((n : Int) / 2), .int .i64 2] W (S27 7 W) by rw [hn2]; exact small27_any 2 (by omega) (n / 2) (by omega) W))
      clear hn2
      unfold S27 at HSM HSM2
      go_upto_region 6 with (go_at_call 27; refine (HSM.out _).mono ?_; rintro e w1 ⟨x, kx, rfl, hx, hxz, hxl, hb1⟩; obtain ⟨Ax, cx, rfl⟩ := hx.form; have H1 := Lib.hid (And.intro hx (And.intro hxz (And.intro hxl hb1))); clear hx hxz hxl hb1)
      obtain ⟨hx, hxz, hxl, hb1⟩ := H1.out
      obtain ⟨E2, hE2⟩ : ∃ E, w1.heap.size = E := ⟨_, rfl⟩
      obtain ⟨W2, hW2⟩ : ∃ W, w1.alloc (.cells #[.int .i64 x.kind, .string x.lab, .slice Ax x.kids.length cx] 25) = W := ⟨_, rfl⟩
      have hbx : ∀ W, Below W2.heap.size W2 W → W.cell? ⟨E2, 0, none⟩ = some (.int .i64 x.kind) ∧ W.cell? ⟨E2, 1, none⟩ = some (.string x.lab) ∧ W.cell? ⟨E2, 2, none⟩ = some (.slice Ax x.kids.length cx) := fun W h => box3 ((h.block _ (by rw [← hW2, ← hE2]; exact lt_push _ _)).trans (by rw [← hW2, ← hE2]; exact at_push _ _))
      have hb12 : Below w1.heap.size w1 W2 := by rw [← hW2]; exact (Below.refl _ w1).alloc (Nat.le_refl _) _
      have HXV := Lib.hid (show XV W2.heap.size W2 (.agg #[.int .i64 x.kind, .string x.lab, .slice Ax x.kids.length cx]) x from ⟨_, rfl, (XQ.xr hx (B := w1.heap.size) (fun b hb => hb.2)).bel hb12 |>.mono hb12.size⟩)
      have HXL := Lib.hid hxl
      have hxz5 : x.sz ≤ 100000 := by omega
      have HBW := Lib.hid (show Below w.heap.size w W2 from HBA.out.trans ((hb1.trans (hb12.mono hb1.size)).mono HBA.out.size))
      rw [hW2, hE2]
      clear H1 hx hxz hxl hb1 hb12 HSM HBA hE2 hW2
      generalize x.kind = xk at *
      generalize x.lab = xl at *
      generalize x.kids.length = nx at *
      have HS2 := Lib.hid hbx
      clear hbx
      go_loopw [3, 4, 5] (fun u3 u4 u5 wr => ∃ m : Nat, m ≤ 31 ∧ u3 = .int .i64 m ∧ Below W2.heap.size W2 wr) (fun u3 u4 u5 _ => 32 - (intOf u3).toNat)
      case atStart => exact ⟨0, Nat.zero_le _, rfl, Below.refl _ _⟩
      case round =>
        obtain ⟨m, hm, rfl, hb⟩ := hrel
        have HBM := Lib.hid hb
        clear hb
        by_cases hm3 : m < 31
        · have hmi : (m : Int) < 31 := by omega
          go_upto_region 10 with (fail)
          go_loopw [4, 5] (fun u4 u5 wr => ∃ (k : Nat) (l : Wd), k + l.length ≤ 31 ∧ u5 = .int .i64 k ∧ wr.ownsRow W2.heap.size 9 1 u4 l.length (l.map Value.string) ∧ Below W2.heap.size W2 wr) (fun u4 u5 _ => (intOf u5).toNat)
          case atStart => exact ⟨m, [], by simp; omega, rfl, World.ownsRow_nil _ _ _ _, HBM.out⟩
          case round =>
            clear HBM
            obtain ⟨k, l, hkl, rfl, hrow, hb⟩ := hrel
            have HK := Lib.hid (And.intro hrow hb)
            obtain ⟨lk, hlk⟩ : ∃ lk, l.length = lk := ⟨_, rfl⟩
            obtain ⟨A4, c4, e4⟩ := row_form hrow
            subst e4
            have HLK := Lib.hid hlk
            rw [hlk] at hkl HK ⊢
            clear hrow hb hlk
            by_cases hk0 : 0 < k
            · have hki : (0 : Int) < (k : Int) := by omega
              obtain ⟨j, hj⟩ : ∃ j : Nat, (j : Int) = (k : Int) - 1 := ⟨k - 1, by omega⟩
              have hpar : ((k : Int) - 1) % 2 = 0 ∨ ((k : Int) - 1) % 2 = 1 := by omega
              have hj2 : ((k : Int) - 1) / 2 = ((j / 2 : Nat) : Int) := by omega
              have hjk : j / 2 < k := by omega
              obtain ⟨i9, hi9, hz9, hs9, hb9⟩ := info_parts parts9
              rcases hpar with hp | hp
              · go_wp2_with (at_builtin; refine wpList_append_own_at _ rfl _ _ 26 rfl W2.heap.size 9 i9 (.string ⟨#[]⟩) 1 16 Try.underlying26 hi9 hz9 hs9 hb9 rfl (by decide) _ _ _ rfl ((HK.out.1.alloc _).alloc _) ⟨wr.heap.size + 1, 0, none⟩ 1 1 [.string ⟨#[97]⟩] rfl rfl (lit_cells (wr.alloc _) _ (by simp) _ 9) (by simp [Value.oneCell']) (by unfold maxLen; omega) (by omega) (by have := HK.out.2.size; simp; omega) ?_; intro v' w4 hown' hgrow hnil hloc)
                go_roundw
                case rel =>
                  have hbz := HK.out.2.size
                  refine ⟨j / 2, l ++ [⟨#[97]⟩], by have := HLK.out; simp; omega, by first | rfl | go_num | (congr 1), ?_, ((HK.out.2.alloc hbz _).alloc (by simp; omega) _).grown hgrow (by simp; omega) (fun g hg => (HK.out.1.lt g hg).1)⟩
                  rw [List.length_append, List.map_append, HLK.out]
                  exact hown'
                case measure => simp [intOf]; omega
              · go_wp2_with (at_builtin; refine wpList_append_own_at _ rfl _ _ 26 rfl W2.heap.size 9 i9 (.string ⟨#[]⟩) 1 16 Try.underlying26 hi9 hz9 hs9 hb9 rfl (by decide) _ _ _ rfl ((HK.out.1.alloc _).alloc _) ⟨wr.heap.size + 1, 0, none⟩ 1 1 [.string ⟨#[98]⟩] rfl rfl (lit_cells (wr.alloc _) _ (by simp) _ 9) (by simp [Value.oneCell']) (by unfold maxLen; omega) (by omega) (by have := HK.out.2.size; simp; omega) ?_; intro v' w4 hown' hgrow hnil hloc)
                go_roundw
                case rel =>
                  have hbz := HK.out.2.size
                  refine ⟨j / 2, l ++ [⟨#[98]⟩], by have := HLK.out; simp; omega, by first | rfl | go_num | (congr 1), ?_, ((HK.out.2.alloc hbz _).alloc (by simp; omega) _).grown hgrow (by simp; omega) (fun g hg => (HK.out.1.lt g hg).1)⟩
                  rw [List.length_append, List.map_append, HLK.out]
                  exact hown'
                case measure => simp [intOf]; omega
            · have hki : ¬ (0 : Int) < (k : Int) := by omega
              have hsr := (own_SR2 (l := l) (by rw [HLK.out]; exact HK.out.1)).1
              have HT1 := Lib.hid (fun W (h : Below wr.heap.size wr W) => calls_base (takes20_any (HXV.out.bel (HK.out.2.trans (h.mono HK.out.2.size))) (Nat.le_trans HK.out.2.size h.size) hxz5 HXL.out (hsr.bel h) h.size (by have := HLK.out; omega)) h)
              have HT2 := Lib.hid (fun W (h : Below wr.heap.size wr W) => calls_base (rtakes_any (HXV.out.bel (HK.out.2.trans (h.mono HK.out.2.size))) (Nat.le_trans HK.out.2.size h.size) hxz5 HXL.out (hsr.bel h) h.size (by have := HLK.out; omega)) h)
              have HS := Lib.hid (fun W (h : Below wr.heap.size wr W) => HS2.out W (HK.out.2.trans (h.mono HK.out.2.size)))
              obtain ⟨tk, htk⟩ : ∃ t, takesB x l = t := ⟨_, rfl⟩
              rw [htk] at HT1 HT2
              clear htk hsr
              go_upto_region 13 with (fail)
              have G0 := Lib.hid (Below.refl wr.heap.size wr).drew
              clear HXV HXL HS2 HBW HSM2
              refine wp_region_noPanic ?_
              refine wp_region_held_drew (S := fun W => (W.cell? ⟨E2, 0, none⟩ = some (.int .i64 xk) ∧ W.cell? ⟨E2, 1, none⟩ = some (.string xl) ∧ W.cell? ⟨E2, 2, none⟩ = some (.slice Ax nx cx))) (by kernel_rfl) (HS.out _ G0.out) (fun hHeld => ?_)
              clear hHeld
              refine wpAnyH_take (i := 0) (v := .agg #[.int .i64 xk, .string xl, .slice Ax nx cx]) rfl (by kernel_rfl) (by kernel_rfl) (by kernel_rfl) (fun _ _ _ h => (h : False).elim) (Or.inl ⟨by rfl, ?_⟩) (HS.out _ G0.out) ?_
              · intro w hSw
                obtain ⟨hs0, hs1, hs2⟩ := hSw
                go_simp
              try simp only [Act.put, List.getElem_toArray, List.getElem_cons_zero, List.getElem_cons_succ, List.setIfInBounds_toArray, List.set_cons_zero, List.set_cons_succ]
              refine wpAnyH_take (i := 1) (v := .slice A4 lk c4) rfl (by kernel_rfl) (by kernel_rfl) (by kernel_rfl) (fun _ _ _ h => (h : False).elim) (Or.inl ⟨by rfl, ?_⟩) (HS.out _ G0.out) ?_
              · intro w hSw
                obtain ⟨hs0, hs1, hs2⟩ := hSw
                go_simp
              try simp only [Act.put, List.getElem_toArray, List.getElem_cons_zero, List.getElem_cons_succ, List.setIfInBounds_toArray, List.set_cons_zero, List.set_cons_succ]
              refine wpAnyH_take (i := 3) (v := .agg #[.int .i64 xk, .string xl, .slice Ax nx cx]) rfl (by kernel_rfl) (by kernel_rfl) (by kernel_rfl) (fun _ _ _ h => (h : False).elim) (Or.inl ⟨by rfl, ?_⟩) (HS.out _ G0.out) ?_
              · intro w hSw
                obtain ⟨hs0, hs1, hs2⟩ := hSw
                go_simp
              try simp only [Act.put, List.getElem_toArray, List.getElem_cons_zero, List.getElem_cons_succ, List.setIfInBounds_toArray, List.set_cons_zero, List.set_cons_succ]
              refine wpAnyH_take (i := 4) (v := .slice A4 lk c4) rfl (by kernel_rfl) (by kernel_rfl) (by kernel_rfl) (fun _ _ _ h => (h : False).elim) (Or.inl ⟨by rfl, ?_⟩) (HS.out _ G0.out) ?_
              · intro w hSw
                obtain ⟨hs0, hs1, hs2⟩ := hSw
                go_simp
              try simp only [Act.put, List.getElem_toArray, List.getElem_cons_zero, List.getElem_cons_succ, List.setIfInBounds_toArray, List.set_cons_zero, List.set_cons_succ]
              refine wpAnyH_ready (rs := [2]) (by kernel_rfl) (by simp) ?_
              refine AllReadyH.cons rfl (fun K hK => ?_) AllReadyH.nil
              go_simp
              refine (HT1.out _ G0.out).mono ?_
              rintro e y2 ⟨rfl, hq⟩
              have G2 := Lib.hid hq
              clear hq
              refine hK.out _ _ (HS.out _ G2.out) (fun _ => ?_)
              clear hK
              try simp only [Act.put, List.getElem_toArray, List.getElem_cons_zero, List.getElem_cons_succ, List.setIfInBounds_toArray, List.set_cons_zero, List.set_cons_succ]
              refine wpAnyH_ready (rs := [5]) (by kernel_rfl) (by simp) ?_
              refine AllReadyH.cons rfl (fun K hK => ?_) AllReadyH.nil
              go_simp
              refine (HT2.out _ G2.out).mono ?_
              rintro e y5 ⟨rfl, hq⟩
              have G5 := Lib.hid hq
              clear hq
              refine hK.out _ _ (HS.out _ G5.out) (fun _ => ?_)
              clear hK
              try simp only [Act.put, List.getElem_toArray, List.getElem_cons_zero, List.getElem_cons_succ, List.setIfInBounds_toArray, List.set_cons_zero, List.set_cons_succ]
              refine wpAnyH_take (i := 6) (v := .bool false) rfl (by kernel_rfl) (by kernel_rfl) (by kernel_rfl) (fun _ _ _ h => (h : False).elim) (Or.inl ⟨by rfl, ?_⟩) (HS.out _ G5.out) ?_
              · intro w hSw
                obtain ⟨hs0, hs1, hs2⟩ := hSw
                (go_simp; try simp)
              try simp only [Act.put, List.getElem_toArray, List.getElem_cons_zero, List.getElem_cons_succ, List.setIfInBounds_toArray, List.set_cons_zero, List.set_cons_succ]
              refine ⟨by kernel_rfl, ?_⟩
              refine NoPanic.normal ?_
              go_wp2_with fail
              go_roundw
              case rel => exact ⟨m + 1, by omega, by go_num, HK.out.2.trans (G5.out.mono HK.out.2.size)⟩
              case measure => simp [intOf]; omega
        · have hmi : ¬ (m : Int) < 31 := by omega
          go_upto_region 15 with (fail)
          have HW2 := HBM
          have hwr : IntKind.i64.wrap ((n : Int) / 2) = (n : Int) / 2 := IntWalk.i64_in _ ⟨by omega, by omega⟩
          have HS := Lib.hid (fun W (h : Below wr.heap.size wr W) => HS2.out W (HBM.out.trans (h.mono HBM.out.size)))
          have G0 := Lib.hid (Below.refl wr.heap.size wr).drew
          refine wp_region_noPanic ?_
          refine wp_region_held_drew (S := fun W => (W.cell? ⟨E2, 0, none⟩ = some (.int .i64 xk) ∧ W.cell? ⟨E2, 1, none⟩ = some (.string xl) ∧ W.cell? ⟨E2, 2, none⟩ = some (.slice Ax nx cx))) (by kernel_rfl) (HS.out _ G0.out) (fun hHeld => ?_)
          clear hHeld
          refine wpAnyH_take (i := 0) (v := .agg #[.int .i64 xk, .string xl, .slice Ax nx cx]) rfl (by kernel_rfl) (by kernel_rfl) (by kernel_rfl) (fun _ _ _ h => (h : False).elim) (Or.inl ⟨by rfl, ?_⟩) (HS.out _ G0.out) ?_
          · intro w hSw
            obtain ⟨hs0, hs1, hs2⟩ := hSw
            go_simp
          try simp only [Act.put, List.getElem_toArray, List.getElem_cons_zero, List.getElem_cons_succ, List.setIfInBounds_toArray, List.set_cons_zero, List.set_cons_succ]
          refine wpAnyH_take (i := 1) (v := .int .i64 n) rfl (by kernel_rfl) (by kernel_rfl) (by kernel_rfl) (fun _ _ _ h => (h : False).elim) (Or.inl ⟨by rfl, ?_⟩) (HS.out _ G0.out) ?_
          · intro w hSw
            obtain ⟨hs0, hs1, hs2⟩ := hSw
            go_simp
          try simp only [Act.put, List.getElem_toArray, List.getElem_cons_zero, List.getElem_cons_succ, List.setIfInBounds_toArray, List.set_cons_zero, List.set_cons_succ]
          refine wpAnyH_take (i := 2) (v := .int .i64 ((n : Int) / 2)) rfl (by kernel_rfl) (by kernel_rfl) (by kernel_rfl) (fun _ _ _ h => (h : False).elim) (Or.inl ⟨by rfl, ?_⟩) (HS.out _ G0.out) ?_
          · intro w hSw
            obtain ⟨hs0, hs1, hs2⟩ := hSw
            (go_simp; try rw [hwr])
          try simp only [Act.put, List.getElem_toArray, List.getElem_cons_zero, List.getElem_cons_succ, List.setIfInBounds_toArray, List.set_cons_zero, List.set_cons_succ]
          refine wpAnyH_ready (rs := [3]) (by kernel_rfl) (by simp) ?_
          refine AllReadyH.cons rfl (fun K hK => ?_) AllReadyH.nil
          go_simp
          refine (HSM2.out _).mono ?_
          rintro e y3 ⟨y, ky, rfl, hy, hyz, hyl, hq⟩
          have G3 := Lib.hid (G0.out.trans (hq.mono G0.out.size))
          have HY := Lib.hid (And.intro (XQ.xr hy (B := y3.heap.size) (fun b hb => hb.2)) (And.intro hyz hyl))
          clear hq hy hyz hyl
          refine hK.out _ _ (HS.out _ G3.out) (fun _ => ?_)
          clear hK
          try simp only [Act.put, List.getElem_toArray, List.getElem_cons_zero, List.getElem_cons_succ, List.setIfInBounds_toArray, List.set_cons_zero, List.set_cons_succ]
          refine wpAnyH_ready (rs := [4]) (by kernel_rfl) (by simp) ?_
          refine AllReadyH.cons rfl (fun K hK => ?_) AllReadyH.nil
          go_simp
          refine (does_any (N := y3.heap.size) (M := 0) ((HXV.out.bel (HW2.out.trans (G3.out.mono HW2.out.size))).mono (Nat.le_trans HW2.out.size G3.out.size)) ⟨_, rfl, HY.out.1⟩ (Nat.le_refl _) HXL.out HY.out.2.2 (SR_nil y3) (Nat.zero_le _)).mono ?_
          rintro e y4 ⟨rfl, hq⟩
          have G4 := Lib.hid (G3.out.trans (hq.mono G3.out.size))
          clear hq HY
          refine hK.out _ _ (HS.out _ G4.out) (fun _ => ?_)
          clear hK
          try simp only [Act.put, List.getElem_toArray, List.getElem_cons_zero, List.getElem_cons_succ, List.setIfInBounds_toArray, List.set_cons_zero, List.set_cons_succ]
          refine wpAnyH_take (i := 5) (v := .bool false) rfl (by kernel_rfl) (by kernel_rfl) (by kernel_rfl) (fun _ _ _ h => (h : False).elim) (Or.inl ⟨by rfl, ?_⟩) (HS.out _ G4.out) ?_
          · intro w hSw
            obtain ⟨hs0, hs1, hs2⟩ := hSw
            go_simp
          try simp only [Act.put, List.getElem_toArray, List.getElem_cons_zero, List.getElem_cons_succ, List.setIfInBounds_toArray, List.set_cons_zero, List.set_cons_succ]
          refine ⟨by kernel_rfl, ?_⟩
          refine NoPanic.normal ?_
          go_wp2_with fail
          go_roundw
          case rel => exact ⟨n + 1, by omega, by go_num, HBW.out.trans ((HBM.out.trans (G4.out.mono HBM.out.size)).mono HBW.out.size)⟩
          case measure => simp [intOf]; omega
    · have hni : ¬ (n : Int) < 512 := by omega
      clear hn5 hn
      go_upto_region 18 with (fail)
      go_loopw [6, 7, 8, 9, 10, 11] (fun u6 u7 u8 u9 u10 u11 wr => ∃ k : Int, -1 ≤ k ∧ k ≤ 9 ∧ u6 = .int .i64 k ∧ Below w.heap.size w wr) (fun u6 u7 u8 u9 u10 u11 _ => (10 - intOf u6).toNat)
      case atStart => exact ⟨-1, by omega, by omega, rfl, HBA.out⟩
      case round =>
        clear HBA
        obtain ⟨k, hk0, hk9, rfl, hb⟩ := hrel
        have HEX := Lib.hid hb
        clear hb
        by_cases hk : k < 9
        · have hki : k < 9 := hk
          clear hk
          go_upto_region 21 with (fail)
          go_loopw [7, 8, 9, 10, 11] (fun u7 u8 u9 u10 u11 wr => ∃ n : Nat, n ≤ 4 ∧ u7 = .int .i64 n ∧ Below w.heap.size w wr) (fun u7 u8 u9 u10 u11 _ => 5 - (intOf u7).toNat)
          case atStart => exact ⟨0, by omega, rfl, HEX.out⟩
          case round =>
            clear HEX
            obtain ⟨n, hn4, rfl, hb⟩ := hrel
            have HEX := Lib.hid hb
            clear hb
            by_cases hn : n < 4
            · have hni : (n : Int) < 4 := by omega
              go_upto_region 25 with (fail)
              obtain ⟨B1, hB1⟩ : ∃ b, wr.heap.size = b := ⟨_, rfl⟩
              obtain ⟨W2, hW2⟩ : ∃ x, wr.alloc (.cells #[.int .i64 k, .string ⟨#[]⟩, .slice none 0 0] 25) = x := ⟨_, rfl⟩
              have hbx0 : W2.heap[B1]? = some (.cells #[.int .i64 k, .string ⟨#[]⟩, .slice none 0 0] 25 (0, 0)) := by rw [← hW2, ← hB1]; exact at_push _ _
              have hb2 : Below B1 wr W2 := by rw [← hW2, ← hB1]; exact (Below.refl _ wr).alloc (Nat.le_refl _) _
              have HEXB := Lib.hid (show ∀ W, Below B1 wr W → Below w.heap.size w W from fun W h => HEX.out.trans (h.mono (by rw [← hB1]; exact HEX.out.size)))
              have HB2 := Lib.hid (And.intro hbx0 hb2)
              rw [hW2, hB1]
              obtain ⟨E8, hE8⟩ : ∃ E, B1 = E := ⟨_, rfl⟩
              have HE8 := Lib.hid hE8
              have hfr : W2.heap[E8]? = some (.cells #[.int .i64 k, .string ⟨#[]⟩, .slice none 0 0] 25 (0, 0)) := by rw [← hE8]; exact hbx0
              have HFR := Lib.hid hfr
              rw [show (Value.pointer (some ⟨B1, 0, none⟩)) = .pointer (some ⟨E8, 0, none⟩) by rw [hE8]]
              clear hB1 hW2 hbx0 hb2 hfr HEX hE8
              go_loopw [9] (fun u9 wz => ∃ (i : Nat) (u : Value), i ≤ n ∧ u9 = .int .i64 i ∧ wz.heap[E8]? = some (.cells #[.int .i64 k, .string ⟨#[]⟩, u] 25 (0, 0)) ∧ wz.ownsRow B1 25 3 u i (flatP (List.replicate i (labX ⟨#[97]⟩, .slice none 0 0))) ∧ u.ownBlock ≠ some E8 ∧ Below B1 wr wz) (fun u9 _ => 6 - (intOf u9).toNat)
              case atStart => exact ⟨0, _, Nat.zero_le _, rfl, HFR.out, World.ownsRow_nil _ _ _ _, (fun e => by cases e), HB2.out.2⟩
              case round =>
                clear HFR HB2
                rename World => wz
                obtain ⟨i, u, hi, rfl, hbx, hown, hne, hb⟩ := hrel
                obtain ⟨Au, cu, eu⟩ := row_form hown
                have HR := Lib.hid (And.intro hbx (And.intro hown (And.intro hne hb)))
                clear hbx hown hne hb
                by_cases hin : i < n
                · have hii : (i : Int) < (n : Int) := by omega
                  obtain ⟨i9, hi9, hz9, hs9, hb9⟩ := info_parts parts25
                  have HBE := Lib.hid HR.out.1
                  have HB1_ := Lib.hid (show B1 ≤ wz.heap.size by have := heap_lt HR.out.1; rw [← HE8.out] at this; omega)
                  have ownB := Lib.hid (fun W (h : Below wz.heap.size wz W) => HR.out.2.1.kept (w' := W) (row := none) ⟨h.os, h.tape, h.output, h.size, fun i hi _ => h.block i hi⟩ (by cases hv : Value.ownBlock _ <;> simp))
                  have HFIN := Lib.hid (fun (W w6 : World) (v' : Value) (hB : Below wz.heap.size wz W) (ho : w6.ownsRow B1 25 3 v' (i + 1) (flatP (List.replicate i (labX ⟨#[97]⟩, .slice none 0 0)) ++ [.int .i64 1, .string ⟨#[97]⟩, .slice none 0 0])) (hg : W.grownBy w6 u.ownBlock) (hat : v'.ownBlock = u.ownBlock ∨ v'.ownBlock = some W.heap.size) =>
                    (show w6.heap[E8]? = some (.cells #[.int .i64 k, .string ⟨#[]⟩, u] 25 (0, 0)) ∧ (w6.setCell ⟨E8, 2, none⟩ v').heap[E8]? = some (.cells #[.int .i64 k, .string ⟨#[]⟩, v'] 25 (0, 0)) ∧ (w6.setCell ⟨E8, 2, none⟩ v').ownsRow B1 25 3 v' (i + 1) (flatP (List.replicate (i + 1) (labX ⟨#[97]⟩, .slice none 0 0))) ∧ v'.ownBlock ≠ some E8 ∧ Below B1 wr (w6.setCell ⟨E8, 2, none⟩ v') from by
                      have hEW := heap_keep hB HBE.out
                      have hE6 : w6.heap[E8]? = some (.cells #[.int .i64 k, .string ⟨#[]⟩, u] 25 (0, 0)) := (hg.block _ (heap_lt hEW) (fun e => HR.out.2.2.1 e.symm)).trans hEW
                      have hEv : v'.ownBlock ≠ some E8 := fun e => by
                        rcases hat with h6 | h6
                        · exact HR.out.2.2.1 (by rw [← h6]; exact e)
                        · rw [h6] at e; injection e with e; have := heap_lt hEW; omega
                      refine ⟨hE6, box_set2 hE6 _, ?_, hEv, ?_⟩
                      · rw [List.replicate_succ', flatP_app, flatP_cons, flatP_nil]
                        exact ownsRow_setCell_other ho hEv _
                      · have hb6 : Below B1 wr W := HR.out.2.2.2.trans (hB.mono HB1_.out)
                        exact (hb6.grown hg (Nat.le_trans HB1_.out hB.size) (fun k hk => (HR.out.2.1.lt k hk).1)).setCell (p := ⟨E8, 2, none⟩) (Nat.le_of_eq HE8.out) _))
                  clear eu HR
                  go_upto_region 27 with (fail)
                  clear HEXB HE8
                  obtain ⟨r0, hr0⟩ : ∃ x, wz.drew = x := ⟨_, rfl⟩
                  have P0 := Lib.hid (show Below wz.heap.size wz r0 by rw [← hr0]; exact (Below.refl _ wz).drew)
                  refine wp_region_noPanic ?_
                  refine wp_region_held_drew (S := fun _ => True) (by kernel_rfl) trivial (fun hHeld => ?_)
                  clear hHeld
                  rw [hr0]
                  clear hr0
                  refine wpAnyH_take (i := 0) (v := .pointer (some ⟨E8, 2, none⟩)) rfl (by kernel_rfl) (by kernel_rfl) (by kernel_rfl) (fun _ _ _ h => (h : False).elim) (Or.inl ⟨by rfl, ?_⟩) (trivial) ?_
                  · intro w hSw
                    go_simp
                  try simp only [Act.put, List.getElem_toArray, List.getElem_cons_zero, List.getElem_cons_succ, List.setIfInBounds_toArray, List.set_cons_zero, List.set_cons_succ]
                  refine wpAnyH_ready (rs := [1, 2]) (by kernel_rfl) (by simp) ?_
                  refine AllReadyH.cons rfl (fun K hK => ?_) (AllReadyH.cons rfl (fun K hK => ?_) AllReadyH.nil)
                  · obtain ⟨q0, q1, q2⟩ := box3 (heap_keep (P0.out) HBE.out)
                    go_simp
                    clear q0 q1 q2
                    refine hK.out _ _ trivial (fun _ => ?_)
                    clear hK
                    try simp only [Act.put, List.getElem_toArray, List.getElem_cons_zero, List.getElem_cons_succ, List.setIfInBounds_toArray, List.set_cons_zero, List.set_cons_succ]
                    obtain ⟨r1, hr1⟩ : ∃ x, r0 = x := ⟨_, rfl⟩
                    have P1 := Lib.hid (show Below wz.heap.size wz r1 by rw [← hr1]; exact P0.out)
                    have SP1 := Lib.hid (show Below r0.heap.size r0 r1 by rw [← hr1]; exact Below.refl _ _)
                    rw [hr1]
                    clear hr1
                    refine wpAnyH_ready (rs := [2]) (by kernel_rfl) (by simp) ?_
                    refine AllReadyH.cons rfl (fun K hK => ?_) AllReadyH.nil
                    go_simp
                    refine (label_any _ _).mono ?_
                    rintro e r2 ⟨rfl, hg⟩
                    have P2 := Lib.hid (P1.out.trans (hg.below.mono P1.out.size))
                    have SP2 := Lib.hid hg.below
                    clear hg
                    refine hK.out _ _ trivial (fun _ => ?_)
                    clear hK
                    try simp only [Act.put, List.getElem_toArray, List.getElem_cons_zero, List.getElem_cons_succ, List.setIfInBounds_toArray, List.set_cons_zero, List.set_cons_succ]
                    refine wpAnyH_ready (rs := [3]) (by kernel_rfl) (by simp) ?_
                    refine AllReadyH.cons rfl (fun K hK => ?_) AllReadyH.nil
                    go_simp
                    refine hK.out _ _ trivial (fun _ => ?_)
                    clear hK
                    try simp only [Act.put, List.getElem_toArray, List.getElem_cons_zero, List.getElem_cons_succ, List.setIfInBounds_toArray, List.set_cons_zero, List.set_cons_succ]
                    obtain ⟨r3, hr3⟩ : ∃ x, r2.alloc (.cells #[.int .i64 1, .string ⟨#[97]⟩, .slice none 0 0] 25) = x := ⟨_, rfl⟩
                    obtain ⟨gA, hgA⟩ : ∃ x, r2.heap.size = x := ⟨_, rfl⟩
                    have FgA3 := Lib.hid (show r3.heap[gA]? = some (.cells #[.int .i64 1, .string ⟨#[97]⟩, .slice none 0 0] 25) by rw [← hr3, ← hgA]; exact at_push _ _)
                    have SP3 := Lib.hid (show Below r2.heap.size r2 r3 by rw [← hr3]; exact (Below.refl _ r2).alloc (Nat.le_refl _) _)
                    have P3 := Lib.hid (P2.out.trans (SP3.out.mono P2.out.size))
                    rw [hr3, hgA]
                    clear hr3 hgA
                    refine wpAnyH_ready (rs := [4]) (by kernel_rfl) (by simp) ?_
                    refine AllReadyH.cons rfl (fun K hK => ?_) AllReadyH.nil
                    have hown := ownB.out _ P3.out
                    refine step_append_own rfl (.tmp 68) (.tmp 70) rfl (base := B1) Try.underlying23 hi9 hz9 hs9 hb9 rfl (by decide) (v := u) (by simp [Act.eval]) hown (ad := ⟨gA, 0, none⟩) (m := 1) (c := 1) (news := [.int .i64 1, .string ⟨#[97]⟩, .slice none 0 0]) (by simp [Act.eval]) rfl (row_cells FgA3.out) (by simp [Value.oneCell']) (by unfold maxLen; omega) (by omega) (Nat.le_trans HB1_.out P3.out.size) ?_
                    intro v' w6 hown' hgrow' hat'
                    obtain ⟨A6, c6, e6⟩ := row_form hown'
                    subst e6
                    have FIN := Lib.hid (HFIN.out _ _ _ P3.out hown' hgrow' hat')
                    clear hown hown' hgrow' hat'
                    refine hK.out _ _ trivial (fun _ => ?_)
                    clear hK
                    try simp only [Act.put, List.getElem_toArray, List.getElem_cons_zero, List.getElem_cons_succ, List.setIfInBounds_toArray, List.set_cons_zero, List.set_cons_succ]
                    refine wpAnyH_take (i := 5) (v := .pointer (some ⟨E8, 2, none⟩)) rfl (by kernel_rfl) (by kernel_rfl) (by kernel_rfl) (fun _ _ _ h => (h : False).elim) (Or.inl ⟨by rfl, ?_⟩) (trivial) ?_
                    · intro w hSw
                      go_simp
                    try simp only [Act.put, List.getElem_toArray, List.getElem_cons_zero, List.getElem_cons_succ, List.setIfInBounds_toArray, List.set_cons_zero, List.set_cons_succ]
                    refine wpAnyH_ready (rs := [6]) (by kernel_rfl) (by simp) ?_
                    refine AllReadyH.cons rfl (fun K hK => ?_) AllReadyH.nil
                    obtain ⟨f1, f2, f3⟩ := FIN.out
                    obtain ⟨q0, q1, q2⟩ := box3 f1
                    have q3 := box_frozen f1 2
                    go_simp
                    refine hK.out _ _ trivial (fun _ => ?_)
                    clear hK q0 q1 q2 q3 f1 f2 f3
                    try simp only [Act.put, List.getElem_toArray, List.getElem_cons_zero, List.getElem_cons_succ, List.setIfInBounds_toArray, List.set_cons_zero, List.set_cons_succ]
                    refine ⟨by kernel_rfl, ?_⟩
                    refine NoPanic.normal ?_
                    go_wp2_with fail
                    go_roundw
                    case rel =>
                      obtain ⟨-, f2, g1, g2, g3⟩ := FIN.out
                      exact ⟨i + 1, _, by omega, by go_num, f2, g1, g2, g3⟩
                    case measure => simp [intOf]; omega
                  · go_simp
                    refine (label_any _ _).mono ?_
                    rintro e r1 ⟨rfl, hg⟩
                    have P1 := Lib.hid (P0.out.trans (hg.below.mono P0.out.size))
                    have SP1 := Lib.hid hg.below
                    clear hg
                    refine hK.out _ _ trivial (fun _ => ?_)
                    clear hK
                    try simp only [Act.put, List.getElem_toArray, List.getElem_cons_zero, List.getElem_cons_succ, List.setIfInBounds_toArray, List.set_cons_zero, List.set_cons_succ]
                    refine wpAnyH_ready (rs := [1, 3]) (by kernel_rfl) (by simp) ?_
                    refine AllReadyH.cons rfl (fun K hK => ?_) (AllReadyH.cons rfl (fun K hK => ?_) AllReadyH.nil)
                    · obtain ⟨q0, q1, q2⟩ := box3 (heap_keep (P1.out) HBE.out)
                      go_simp
                      clear q0 q1 q2
                      refine hK.out _ _ trivial (fun _ => ?_)
                      clear hK
                      try simp only [Act.put, List.getElem_toArray, List.getElem_cons_zero, List.getElem_cons_succ, List.setIfInBounds_toArray, List.set_cons_zero, List.set_cons_succ]
                      obtain ⟨r2, hr2⟩ : ∃ x, r1 = x := ⟨_, rfl⟩
                      have P2 := Lib.hid (show Below wz.heap.size wz r2 by rw [← hr2]; exact P1.out)
                      have SP2 := Lib.hid (show Below r1.heap.size r1 r2 by rw [← hr2]; exact Below.refl _ _)
                      rw [hr2]
                      clear hr2
                      refine wpAnyH_ready (rs := [3]) (by kernel_rfl) (by simp) ?_
                      refine AllReadyH.cons rfl (fun K hK => ?_) AllReadyH.nil
                      go_simp
                      refine hK.out _ _ trivial (fun _ => ?_)
                      clear hK
                      try simp only [Act.put, List.getElem_toArray, List.getElem_cons_zero, List.getElem_cons_succ, List.setIfInBounds_toArray, List.set_cons_zero, List.set_cons_succ]
                      obtain ⟨r3, hr3⟩ : ∃ x, r2.alloc (.cells #[.int .i64 1, .string ⟨#[97]⟩, .slice none 0 0] 25) = x := ⟨_, rfl⟩
                      obtain ⟨gA, hgA⟩ : ∃ x, r2.heap.size = x := ⟨_, rfl⟩
                      have FgA3 := Lib.hid (show r3.heap[gA]? = some (.cells #[.int .i64 1, .string ⟨#[97]⟩, .slice none 0 0] 25) by rw [← hr3, ← hgA]; exact at_push _ _)
                      have SP3 := Lib.hid (show Below r2.heap.size r2 r3 by rw [← hr3]; exact (Below.refl _ r2).alloc (Nat.le_refl _) _)
                      have P3 := Lib.hid (P2.out.trans (SP3.out.mono P2.out.size))
                      rw [hr3, hgA]
                      clear hr3 hgA
                      refine wpAnyH_ready (rs := [4]) (by kernel_rfl) (by simp) ?_
                      refine AllReadyH.cons rfl (fun K hK => ?_) AllReadyH.nil
                      have hown := ownB.out _ P3.out
                      refine step_append_own rfl (.tmp 68) (.tmp 70) rfl (base := B1) Try.underlying23 hi9 hz9 hs9 hb9 rfl (by decide) (v := u) (by simp [Act.eval]) hown (ad := ⟨gA, 0, none⟩) (m := 1) (c := 1) (news := [.int .i64 1, .string ⟨#[97]⟩, .slice none 0 0]) (by simp [Act.eval]) rfl (row_cells FgA3.out) (by simp [Value.oneCell']) (by unfold maxLen; omega) (by omega) (Nat.le_trans HB1_.out P3.out.size) ?_
                      intro v' w6 hown' hgrow' hat'
                      obtain ⟨A6, c6, e6⟩ := row_form hown'
                      subst e6
                      have FIN := Lib.hid (HFIN.out _ _ _ P3.out hown' hgrow' hat')
                      clear hown hown' hgrow' hat'
                      refine hK.out _ _ trivial (fun _ => ?_)
                      clear hK
                      try simp only [Act.put, List.getElem_toArray, List.getElem_cons_zero, List.getElem_cons_succ, List.setIfInBounds_toArray, List.set_cons_zero, List.set_cons_succ]
                      refine wpAnyH_take (i := 5) (v := .pointer (some ⟨E8, 2, none⟩)) rfl (by kernel_rfl) (by kernel_rfl) (by kernel_rfl) (fun _ _ _ h => (h : False).elim) (Or.inl ⟨by rfl, ?_⟩) (trivial) ?_
                      · intro w hSw
                        go_simp
                      try simp only [Act.put, List.getElem_toArray, List.getElem_cons_zero, List.getElem_cons_succ, List.setIfInBounds_toArray, List.set_cons_zero, List.set_cons_succ]
                      refine wpAnyH_ready (rs := [6]) (by kernel_rfl) (by simp) ?_
                      refine AllReadyH.cons rfl (fun K hK => ?_) AllReadyH.nil
                      obtain ⟨f1, f2, f3⟩ := FIN.out
                      obtain ⟨q0, q1, q2⟩ := box3 f1
                      have q3 := box_frozen f1 2
                      go_simp
                      refine hK.out _ _ trivial (fun _ => ?_)
                      clear hK q0 q1 q2 q3 f1 f2 f3
                      try simp only [Act.put, List.getElem_toArray, List.getElem_cons_zero, List.getElem_cons_succ, List.setIfInBounds_toArray, List.set_cons_zero, List.set_cons_succ]
                      refine ⟨by kernel_rfl, ?_⟩
                      refine NoPanic.normal ?_
                      go_wp2_with fail
                      go_roundw
                      case rel =>
                        obtain ⟨-, f2, g1, g2, g3⟩ := FIN.out
                        exact ⟨i + 1, _, by omega, by go_num, f2, g1, g2, g3⟩
                      case measure => simp [intOf]; omega
                    · go_simp
                      refine hK.out _ _ trivial (fun _ => ?_)
                      clear hK
                      try simp only [Act.put, List.getElem_toArray, List.getElem_cons_zero, List.getElem_cons_succ, List.setIfInBounds_toArray, List.set_cons_zero, List.set_cons_succ]
                      obtain ⟨r2, hr2⟩ : ∃ x, r1.alloc (.cells #[.int .i64 1, .string ⟨#[97]⟩, .slice none 0 0] 25) = x := ⟨_, rfl⟩
                      obtain ⟨gA, hgA⟩ : ∃ x, r1.heap.size = x := ⟨_, rfl⟩
                      have FgA2 := Lib.hid (show r2.heap[gA]? = some (.cells #[.int .i64 1, .string ⟨#[97]⟩, .slice none 0 0] 25) by rw [← hr2, ← hgA]; exact at_push _ _)
                      have SP2 := Lib.hid (show Below r1.heap.size r1 r2 by rw [← hr2]; exact (Below.refl _ r1).alloc (Nat.le_refl _) _)
                      have P2 := Lib.hid (P1.out.trans (SP2.out.mono P1.out.size))
                      rw [hr2, hgA]
                      clear hr2 hgA
                      refine wpAnyH_ready (rs := [1]) (by kernel_rfl) (by simp) ?_
                      refine AllReadyH.cons rfl (fun K hK => ?_) AllReadyH.nil
                      obtain ⟨q0, q1, q2⟩ := box3 (heap_keep (P2.out) HBE.out)
                      go_simp
                      clear q0 q1 q2
                      refine hK.out _ _ trivial (fun _ => ?_)
                      clear hK
                      try simp only [Act.put, List.getElem_toArray, List.getElem_cons_zero, List.getElem_cons_succ, List.setIfInBounds_toArray, List.set_cons_zero, List.set_cons_succ]
                      obtain ⟨r3, hr3⟩ : ∃ x, r2 = x := ⟨_, rfl⟩
                      have P3 := Lib.hid (show Below wz.heap.size wz r3 by rw [← hr3]; exact P2.out)
                      have SP3 := Lib.hid (show Below r2.heap.size r2 r3 by rw [← hr3]; exact Below.refl _ _)
                      rw [hr3]
                      clear hr3
                      have FgA3 := Lib.hid (heap_keep SP3.out FgA2.out)
                      refine wpAnyH_ready (rs := [4]) (by kernel_rfl) (by simp) ?_
                      refine AllReadyH.cons rfl (fun K hK => ?_) AllReadyH.nil
                      have hown := ownB.out _ P3.out
                      refine step_append_own rfl (.tmp 68) (.tmp 70) rfl (base := B1) Try.underlying23 hi9 hz9 hs9 hb9 rfl (by decide) (v := u) (by simp [Act.eval]) hown (ad := ⟨gA, 0, none⟩) (m := 1) (c := 1) (news := [.int .i64 1, .string ⟨#[97]⟩, .slice none 0 0]) (by simp [Act.eval]) rfl (row_cells FgA3.out) (by simp [Value.oneCell']) (by unfold maxLen; omega) (by omega) (Nat.le_trans HB1_.out P3.out.size) ?_
                      intro v' w6 hown' hgrow' hat'
                      obtain ⟨A6, c6, e6⟩ := row_form hown'
                      subst e6
                      have FIN := Lib.hid (HFIN.out _ _ _ P3.out hown' hgrow' hat')
                      clear hown hown' hgrow' hat'
                      refine hK.out _ _ trivial (fun _ => ?_)
                      clear hK
                      try simp only [Act.put, List.getElem_toArray, List.getElem_cons_zero, List.getElem_cons_succ, List.setIfInBounds_toArray, List.set_cons_zero, List.set_cons_succ]
                      refine wpAnyH_take (i := 5) (v := .pointer (some ⟨E8, 2, none⟩)) rfl (by kernel_rfl) (by kernel_rfl) (by kernel_rfl) (fun _ _ _ h => (h : False).elim) (Or.inl ⟨by rfl, ?_⟩) (trivial) ?_
                      · intro w hSw
                        go_simp
                      try simp only [Act.put, List.getElem_toArray, List.getElem_cons_zero, List.getElem_cons_succ, List.setIfInBounds_toArray, List.set_cons_zero, List.set_cons_succ]
                      refine wpAnyH_ready (rs := [6]) (by kernel_rfl) (by simp) ?_
                      refine AllReadyH.cons rfl (fun K hK => ?_) AllReadyH.nil
                      obtain ⟨f1, f2, f3⟩ := FIN.out
                      obtain ⟨q0, q1, q2⟩ := box3 f1
                      have q3 := box_frozen f1 2
                      go_simp
                      refine hK.out _ _ trivial (fun _ => ?_)
                      clear hK q0 q1 q2 q3 f1 f2 f3
                      try simp only [Act.put, List.getElem_toArray, List.getElem_cons_zero, List.getElem_cons_succ, List.setIfInBounds_toArray, List.set_cons_zero, List.set_cons_succ]
                      refine ⟨by kernel_rfl, ?_⟩
                      refine NoPanic.normal ?_
                      go_wp2_with fail
                      go_roundw
                      case rel =>
                        obtain ⟨-, f2, g1, g2, g3⟩ := FIN.out
                        exact ⟨i + 1, _, by omega, by go_num, f2, g1, g2, g3⟩
                      case measure => simp [intOf]; omega
                · have hii : ¬ (i : Int) < (n : Int) := by omega
                  subst eu
                  obtain ⟨ks, hks⟩ : ∃ ks, (List.replicate i ((labX ⟨#[97]⟩ : X), Value.slice none 0 0)).map Prod.fst = ks := ⟨_, rfl⟩
                  have hxq := own_XQ (ps := List.replicate i (labX ⟨#[97]⟩, .slice none 0 0)) (q := fun _ => False) (by rw [List.length_replicate]; exact HR.out.2.1) (fun p hp => by obtain rfl := List.eq_of_mem_replicate hp; exact XQ.nil _ _) (fun b hb => hb.elim)
                  rw [hks] at hxq
                  have hkl : ∀ y ∈ ks, y.lit := fun y hy => by
                    rw [← hks, List.map_replicate] at hy
                    obtain rfl := List.eq_of_mem_replicate hy
                    exact lit_lab _ (by decide)
                  obtain ⟨d0, d1, d2⟩ := box3 HR.out.1
                  go_upto_region 30 with (fail)
                  clear d0 d1 d2
                  obtain ⟨u, hu⟩ : ∃ u, Value.slice Au i cu = u := ⟨_, rfl⟩
                  rw [hu] at HR hxq ⊢
                  obtain ⟨E10, hE10⟩ : ∃ E, wz.heap.size = E := ⟨_, rfl⟩
                  obtain ⟨W4, hW4⟩ : ∃ x, wz.alloc (.cells #[.int .i64 k, .string ⟨#[98]⟩, u] 25) = x := ⟨_, rfl⟩
                  have hb4 : Below wz.heap.size wz W4 := by rw [← hW4]; exact (Below.refl _ wz).alloc (Nat.le_refl _) _
                  have hbx10 : W4.heap[E10]? = some (.cells #[.int .i64 k, .string ⟨#[98]⟩, u] 25 (0, 0)) := by rw [← hW4, ← hE10]; exact at_push _ _
                  have hbx8 := heap_keep hb4 HR.out.1
                  have HXQ := Lib.hid (hxq.keep (w' := W4) (q' := fun b => b < W4.heap.size) (fun b hq => hb4.block b hq) (fun b hq => Nat.lt_of_lt_of_le hq hb4.size))
                  have HS8 := Lib.hid (fun W (h : Below W4.heap.size W4 W) => box3 (heap_keep h hbx8))
                  have HBXS := Lib.hid (And.intro hbx8 (And.intro hbx10 hkl))
                  have HB4 := Lib.hid (HEXB.out _ (HR.out.2.2.2.trans (hb4.mono (by have := heap_lt HR.out.1; have := HE8.out; omega))))
                  rw [hW4, hE10]
                  clear hu hE10 hW4 hb4 hbx10 hbx8 hxq hks hkl HR HEXB HE8 hii
                  go_cut [11] from 75 to 110 (fun t11 wy => ∃ (E11 : Nat) (kz : Value), t11 = .pointer (some ⟨E11, 0, none⟩) ∧ wy.heap[E11]? = some (.cells #[.int .i64 3, .string ⟨#[]⟩, kz] 25 (0, 0)) ∧ XR wy.heap.size wy kz [labX ⟨#[99]⟩, X.mk 6 ⟨#[]⟩ [X.mk k ⟨#[]⟩ ks]] ∧ Below W4.heap.size W4 wy)
                  case first =>
                    clear HBXS HB4 hk0 hk9 hki hn4 hn hni hi hin
                    obtain ⟨r0, hr0⟩ : ∃ x, W4.drew = x := ⟨_, rfl⟩
                    have B0 := Lib.hid (show Below W4.heap.size W4 r0 by rw [← hr0]; exact (Below.refl _ W4).drew)
                    refine wp_region_noPanic ?_
                    refine wp_region_held_drew (S := fun W => (W.cell? ⟨E8, 0, none⟩ = some (.int .i64 k) ∧ W.cell? ⟨E8, 1, none⟩ = some (.string ⟨#[]⟩) ∧ W.cell? ⟨E8, 2, none⟩ = some u)) (by kernel_rfl) (by rw [hr0]; exact HS8.out _ B0.out) (fun hHeld => ?_)
                    clear hHeld
                    rw [hr0]
                    clear hr0
                    refine wpAnyH_take (i := 1) (v := .agg #[.int .i64 k, .string ⟨#[]⟩, u]) rfl (by kernel_rfl) (by kernel_rfl) (by kernel_rfl) (fun _ _ _ h => (h : False).elim) (Or.inl ⟨by rfl, ?_⟩) (HS8.out _ B0.out) ?_
                    · intro w hSw
                      obtain ⟨hs0, hs1, hs2⟩ := hSw
                      go_simp
                    try simp only [Act.put, List.getElem_toArray, List.getElem_cons_zero, List.getElem_cons_succ, List.setIfInBounds_toArray, List.set_cons_zero, List.set_cons_succ]
                    refine wpAnyH_ready (rs := [0, 2, 6]) (by kernel_rfl) (by simp) ?_
                    refine AllReadyH.cons rfl (fun K hK => ?_) (AllReadyH.cons rfl (fun K hK => ?_) (AllReadyH.cons rfl (fun K hK => ?_) AllReadyH.nil))
                    · go_simp
                      refine (label_any _ _).mono ?_
                      rintro e r1 ⟨rfl, hg⟩
                      have B1 := Lib.hid (B0.out.trans (hg.below.mono B0.out.size))
                      have SB1 := Lib.hid hg.below
                      clear hg
                      refine hK.out _ _ (HS8.out _ B1.out) (fun _ => ?_)
                      clear hK
                      try simp only [Act.put, List.getElem_toArray, List.getElem_cons_zero, List.getElem_cons_succ, List.setIfInBounds_toArray, List.set_cons_zero, List.set_cons_succ]
                      refine wpAnyH_ready (rs := [2, 6]) (by kernel_rfl) (by simp) ?_
                      refine AllReadyH.cons rfl (fun K hK => ?_) (AllReadyH.cons rfl (fun K hK => ?_) AllReadyH.nil)
                      · go_simp
                        refine hK.out _ _ (HS8.out _ (B1.out.alloc B1.out.size _)) (fun _ => ?_)
                        clear hK
                        try simp only [Act.put, List.getElem_toArray, List.getElem_cons_zero, List.getElem_cons_succ, List.setIfInBounds_toArray, List.set_cons_zero, List.set_cons_succ]
                        obtain ⟨r2, hr2⟩ : ∃ x, r1.alloc (.cells #[.int .i64 k, .string ⟨#[]⟩, u] 25) = x := ⟨_, rfl⟩
                        obtain ⟨g1, hg1⟩ : ∃ x, r1.heap.size = x := ⟨_, rfl⟩
                        have Fg12 := Lib.hid (show r2.heap[g1]? = some (.cells #[.int .i64 k, .string ⟨#[]⟩, u] 25) by rw [← hr2, ← hg1]; exact at_push _ _)
                        have SB2 := Lib.hid (show Below r1.heap.size r1 r2 by rw [← hr2]; exact (Below.refl _ r1).alloc (Nat.le_refl _) _)
                        have B2 := Lib.hid (B1.out.trans (SB2.out.mono B1.out.size))
                        have Zg1 := Lib.hid (show W4.heap.size ≤ g1 by rw [← hg1]; exact B1.out.size)
                        rw [hr2, hg1]
                        clear hr2 hg1
                        refine wpAnyH_ready (rs := [3, 6]) (by kernel_rfl) (by simp) ?_
                        refine AllReadyH.cons rfl (fun K hK => ?_) (AllReadyH.cons rfl (fun K hK => ?_) AllReadyH.nil)
                        · go_simp
                          refine (of_any _ _ _ _ _).mono ?_
                          rintro e r3 ⟨rfl, hg⟩
                          have B3 := Lib.hid (B2.out.trans (hg.below.mono B2.out.size))
                          have SB3 := Lib.hid hg.below
                          clear hg
                          refine hK.out _ _ (HS8.out _ B3.out) (fun _ => ?_)
                          clear hK
                          try simp only [Act.put, List.getElem_toArray, List.getElem_cons_zero, List.getElem_cons_succ, List.setIfInBounds_toArray, List.set_cons_zero, List.set_cons_succ]
                          have Fg13 := Lib.hid (heap_keep SB3.out Fg12.out)
                          refine wpAnyH_ready (rs := [4, 6]) (by kernel_rfl) (by simp) ?_
                          refine AllReadyH.cons rfl (fun K hK => ?_) (AllReadyH.cons rfl (fun K hK => ?_) AllReadyH.nil)
                          · go_simp
                            refine hK.out _ _ (HS8.out _ (B3.out.alloc B3.out.size _)) (fun _ => ?_)
                            clear hK
                            try simp only [Act.put, List.getElem_toArray, List.getElem_cons_zero, List.getElem_cons_succ, List.setIfInBounds_toArray, List.set_cons_zero, List.set_cons_succ]
                            obtain ⟨r4, hr4⟩ : ∃ x, r3.alloc (.cells #[.int .i64 1, .string ⟨#[99]⟩, .slice none 0 0, .int .i64 6, .string ⟨#[]⟩, .slice (some ⟨g1, 0, none⟩) 1 1] 25) = x := ⟨_, rfl⟩
                            obtain ⟨g2, hg2⟩ : ∃ x, r3.heap.size = x := ⟨_, rfl⟩
                            have Fg24 := Lib.hid (show r4.heap[g2]? = some (.cells #[.int .i64 1, .string ⟨#[99]⟩, .slice none 0 0, .int .i64 6, .string ⟨#[]⟩, .slice (some ⟨g1, 0, none⟩) 1 1] 25) by rw [← hr4, ← hg2]; exact at_push _ _)
                            have SB4 := Lib.hid (show Below r3.heap.size r3 r4 by rw [← hr4]; exact (Below.refl _ r3).alloc (Nat.le_refl _) _)
                            have B4 := Lib.hid (B3.out.trans (SB4.out.mono B3.out.size))
                            have Zg2 := Lib.hid (show W4.heap.size ≤ g2 by rw [← hg2]; exact B3.out.size)
                            have Ng1g2 := Lib.hid (show g1 ≠ g2 by rw [← hg2]; exact Nat.ne_of_lt (heap_lt Fg13.out))
                            rw [hr4, hg2]
                            clear hr4 hg2
                            have Fg14 := Lib.hid (heap_keep SB4.out Fg13.out)
                            refine wpAnyH_ready (rs := [5, 6]) (by kernel_rfl) (by simp) ?_
                            refine AllReadyH.cons rfl (fun K hK => ?_) (AllReadyH.cons rfl (fun K hK => ?_) AllReadyH.nil)
                            · go_simp
                              refine (of_any _ _ _ _ _).mono ?_
                              rintro e r5 ⟨rfl, hg⟩
                              have B5 := Lib.hid (B4.out.trans (hg.below.mono B4.out.size))
                              have SB5 := Lib.hid hg.below
                              clear hg
                              refine hK.out _ _ (HS8.out _ B5.out) (fun _ => ?_)
                              clear hK
                              try simp only [Act.put, List.getElem_toArray, List.getElem_cons_zero, List.getElem_cons_succ, List.setIfInBounds_toArray, List.set_cons_zero, List.set_cons_succ]
                              have Fg15 := Lib.hid (heap_keep SB5.out Fg14.out)
                              have Fg25 := Lib.hid (heap_keep SB5.out Fg24.out)
                              refine wpAnyH_ready (rs := [6]) (by kernel_rfl) (by simp) ?_
                              refine AllReadyH.cons rfl (fun K hK => ?_) AllReadyH.nil
                              go_simp
                              refine hK.out _ _ (HS8.out _ (B5.out.alloc B5.out.size _)) (fun _ => ?_)
                              clear hK
                              try simp only [Act.put, List.getElem_toArray, List.getElem_cons_zero, List.getElem_cons_succ, List.setIfInBounds_toArray, List.set_cons_zero, List.set_cons_succ]
                              obtain ⟨r6, hr6⟩ : ∃ x, r5.alloc (.cells #[.int .i64 0, .string ⟨#[]⟩, .slice none 0 0] 25) = x := ⟨_, rfl⟩
                              obtain ⟨E11, hE11⟩ : ∃ x, r5.heap.size = x := ⟨_, rfl⟩
                              have FE116 := Lib.hid (show r6.heap[E11]? = some (.cells #[.int .i64 0, .string ⟨#[]⟩, .slice none 0 0] 25) by rw [← hr6, ← hE11]; exact at_push _ _)
                              have SB6 := Lib.hid (show Below r5.heap.size r5 r6 by rw [← hr6]; exact (Below.refl _ r5).alloc (Nat.le_refl _) _)
                              have B6 := Lib.hid (B5.out.trans (SB6.out.mono B5.out.size))
                              have ZE11 := Lib.hid (show W4.heap.size ≤ E11 by rw [← hE11]; exact B5.out.size)
                              have Ng1E11 := Lib.hid (show g1 ≠ E11 by rw [← hE11]; exact Nat.ne_of_lt (heap_lt Fg15.out))
                              have Ng2E11 := Lib.hid (show g2 ≠ E11 by rw [← hE11]; exact Nat.ne_of_lt (heap_lt Fg25.out))
                              rw [hr6, hE11]
                              clear hr6 hE11
                              have Fg16 := Lib.hid (heap_keep SB6.out Fg15.out)
                              have Fg26 := Lib.hid (heap_keep SB6.out Fg25.out)
                              refine wpAnyH_ready (rs := [7]) (by kernel_rfl) (by simp) ?_
                              refine AllReadyH.cons rfl (fun K hK => ?_) AllReadyH.nil
                              obtain ⟨⟨z0, z1, z2⟩, f0, f1, f2⟩ := z25_cells FE116.out
                              go_simp
                              have BF := Lib.hid (set3_below B6.out ZE11.out (.int .i64 3) (.string ⟨#[]⟩) (.slice (some ⟨g2, 0, none⟩) 2 2))
                              refine hK.out _ _ (HS8.out _ BF.out) (fun _ => ?_)
                              clear hK z0 z1 z2 f0 f1 f2
                              try simp only [Act.put, List.getElem_toArray, List.getElem_cons_zero, List.getElem_cons_succ, List.setIfInBounds_toArray, List.set_cons_zero, List.set_cons_succ]
                              refine ⟨by kernel_rfl, ?_⟩
                              refine NoPanic.normal ?_
                              go_wp2_with fail
                              go_meet
                              exact ⟨E11, .slice (some ⟨g2, 0, none⟩) 2 2, rfl, set3_self _ _ _ FE116.out, zkids HXQ.out BF.out ((set3_other _ _ _ Ng1E11.out).trans Fg16.out) ((set3_other _ _ _ Ng2E11.out).trans Fg26.out), BF.out⟩
                            · go_simp
                              refine hK.out _ _ (HS8.out _ (B4.out.alloc B4.out.size _)) (fun _ => ?_)
                              clear hK
                              try simp only [Act.put, List.getElem_toArray, List.getElem_cons_zero, List.getElem_cons_succ, List.setIfInBounds_toArray, List.set_cons_zero, List.set_cons_succ]
                              obtain ⟨r5, hr5⟩ : ∃ x, r4.alloc (.cells #[.int .i64 0, .string ⟨#[]⟩, .slice none 0 0] 25) = x := ⟨_, rfl⟩
                              obtain ⟨E11, hE11⟩ : ∃ x, r4.heap.size = x := ⟨_, rfl⟩
                              have FE115 := Lib.hid (show r5.heap[E11]? = some (.cells #[.int .i64 0, .string ⟨#[]⟩, .slice none 0 0] 25) by rw [← hr5, ← hE11]; exact at_push _ _)
                              have SB5 := Lib.hid (show Below r4.heap.size r4 r5 by rw [← hr5]; exact (Below.refl _ r4).alloc (Nat.le_refl _) _)
                              have B5 := Lib.hid (B4.out.trans (SB5.out.mono B4.out.size))
                              have ZE11 := Lib.hid (show W4.heap.size ≤ E11 by rw [← hE11]; exact B4.out.size)
                              have Ng1E11 := Lib.hid (show g1 ≠ E11 by rw [← hE11]; exact Nat.ne_of_lt (heap_lt Fg14.out))
                              have Ng2E11 := Lib.hid (show g2 ≠ E11 by rw [← hE11]; exact Nat.ne_of_lt (heap_lt Fg24.out))
                              rw [hr5, hE11]
                              clear hr5 hE11
                              have Fg15 := Lib.hid (heap_keep SB5.out Fg14.out)
                              have Fg25 := Lib.hid (heap_keep SB5.out Fg24.out)
                              refine wpAnyH_ready (rs := [5]) (by kernel_rfl) (by simp) ?_
                              refine AllReadyH.cons rfl (fun K hK => ?_) AllReadyH.nil
                              go_simp
                              refine (of_any _ _ _ _ _).mono ?_
                              rintro e r6 ⟨rfl, hg⟩
                              have B6 := Lib.hid (B5.out.trans (hg.below.mono B5.out.size))
                              have SB6 := Lib.hid hg.below
                              clear hg
                              refine hK.out _ _ (HS8.out _ B6.out) (fun _ => ?_)
                              clear hK
                              try simp only [Act.put, List.getElem_toArray, List.getElem_cons_zero, List.getElem_cons_succ, List.setIfInBounds_toArray, List.set_cons_zero, List.set_cons_succ]
                              have Fg16 := Lib.hid (heap_keep SB6.out Fg15.out)
                              have Fg26 := Lib.hid (heap_keep SB6.out Fg25.out)
                              have FE116 := Lib.hid (heap_keep SB6.out FE115.out)
                              refine wpAnyH_ready (rs := [7]) (by kernel_rfl) (by simp) ?_
                              refine AllReadyH.cons rfl (fun K hK => ?_) AllReadyH.nil
                              obtain ⟨⟨z0, z1, z2⟩, f0, f1, f2⟩ := z25_cells FE116.out
                              go_simp
                              have BF := Lib.hid (set3_below B6.out ZE11.out (.int .i64 3) (.string ⟨#[]⟩) (.slice (some ⟨g2, 0, none⟩) 2 2))
                              refine hK.out _ _ (HS8.out _ BF.out) (fun _ => ?_)
                              clear hK z0 z1 z2 f0 f1 f2
                              try simp only [Act.put, List.getElem_toArray, List.getElem_cons_zero, List.getElem_cons_succ, List.setIfInBounds_toArray, List.set_cons_zero, List.set_cons_succ]
                              refine ⟨by kernel_rfl, ?_⟩
                              refine NoPanic.normal ?_
                              go_wp2_with fail
                              go_meet
                              exact ⟨E11, .slice (some ⟨g2, 0, none⟩) 2 2, rfl, set3_self _ _ _ FE116.out, zkids HXQ.out BF.out ((set3_other _ _ _ Ng1E11.out).trans Fg16.out) ((set3_other _ _ _ Ng2E11.out).trans Fg26.out), BF.out⟩
                          · go_simp
                            refine hK.out _ _ (HS8.out _ (B3.out.alloc B3.out.size _)) (fun _ => ?_)
                            clear hK
                            try simp only [Act.put, List.getElem_toArray, List.getElem_cons_zero, List.getElem_cons_succ, List.setIfInBounds_toArray, List.set_cons_zero, List.set_cons_succ]
                            obtain ⟨r4, hr4⟩ : ∃ x, r3.alloc (.cells #[.int .i64 0, .string ⟨#[]⟩, .slice none 0 0] 25) = x := ⟨_, rfl⟩
                            obtain ⟨E11, hE11⟩ : ∃ x, r3.heap.size = x := ⟨_, rfl⟩
                            have FE114 := Lib.hid (show r4.heap[E11]? = some (.cells #[.int .i64 0, .string ⟨#[]⟩, .slice none 0 0] 25) by rw [← hr4, ← hE11]; exact at_push _ _)
                            have SB4 := Lib.hid (show Below r3.heap.size r3 r4 by rw [← hr4]; exact (Below.refl _ r3).alloc (Nat.le_refl _) _)
                            have B4 := Lib.hid (B3.out.trans (SB4.out.mono B3.out.size))
                            have ZE11 := Lib.hid (show W4.heap.size ≤ E11 by rw [← hE11]; exact B3.out.size)
                            have Ng1E11 := Lib.hid (show g1 ≠ E11 by rw [← hE11]; exact Nat.ne_of_lt (heap_lt Fg13.out))
                            rw [hr4, hE11]
                            clear hr4 hE11
                            have Fg14 := Lib.hid (heap_keep SB4.out Fg13.out)
                            refine wpAnyH_ready (rs := [4]) (by kernel_rfl) (by simp) ?_
                            refine AllReadyH.cons rfl (fun K hK => ?_) AllReadyH.nil
                            go_simp
                            refine hK.out _ _ (HS8.out _ (B4.out.alloc B4.out.size _)) (fun _ => ?_)
                            clear hK
                            try simp only [Act.put, List.getElem_toArray, List.getElem_cons_zero, List.getElem_cons_succ, List.setIfInBounds_toArray, List.set_cons_zero, List.set_cons_succ]
                            obtain ⟨r5, hr5⟩ : ∃ x, r4.alloc (.cells #[.int .i64 1, .string ⟨#[99]⟩, .slice none 0 0, .int .i64 6, .string ⟨#[]⟩, .slice (some ⟨g1, 0, none⟩) 1 1] 25) = x := ⟨_, rfl⟩
                            obtain ⟨g2, hg2⟩ : ∃ x, r4.heap.size = x := ⟨_, rfl⟩
                            have Fg25 := Lib.hid (show r5.heap[g2]? = some (.cells #[.int .i64 1, .string ⟨#[99]⟩, .slice none 0 0, .int .i64 6, .string ⟨#[]⟩, .slice (some ⟨g1, 0, none⟩) 1 1] 25) by rw [← hr5, ← hg2]; exact at_push _ _)
                            have SB5 := Lib.hid (show Below r4.heap.size r4 r5 by rw [← hr5]; exact (Below.refl _ r4).alloc (Nat.le_refl _) _)
                            have B5 := Lib.hid (B4.out.trans (SB5.out.mono B4.out.size))
                            have Zg2 := Lib.hid (show W4.heap.size ≤ g2 by rw [← hg2]; exact B4.out.size)
                            have Ng1g2 := Lib.hid (show g1 ≠ g2 by rw [← hg2]; exact Nat.ne_of_lt (heap_lt Fg14.out))
                            have NE11g2 := Lib.hid (show E11 ≠ g2 by rw [← hg2]; exact Nat.ne_of_lt (heap_lt FE114.out))
                            rw [hr5, hg2]
                            clear hr5 hg2
                            have Fg15 := Lib.hid (heap_keep SB5.out Fg14.out)
                            have FE115 := Lib.hid (heap_keep SB5.out FE114.out)
                            refine wpAnyH_ready (rs := [5]) (by kernel_rfl) (by simp) ?_
                            refine AllReadyH.cons rfl (fun K hK => ?_) AllReadyH.nil
                            go_simp
                            refine (of_any _ _ _ _ _).mono ?_
                            rintro e r6 ⟨rfl, hg⟩
                            have B6 := Lib.hid (B5.out.trans (hg.below.mono B5.out.size))
                            have SB6 := Lib.hid hg.below
                            clear hg
                            refine hK.out _ _ (HS8.out _ B6.out) (fun _ => ?_)
                            clear hK
                            try simp only [Act.put, List.getElem_toArray, List.getElem_cons_zero, List.getElem_cons_succ, List.setIfInBounds_toArray, List.set_cons_zero, List.set_cons_succ]
                            have Fg16 := Lib.hid (heap_keep SB6.out Fg15.out)
                            have FE116 := Lib.hid (heap_keep SB6.out FE115.out)
                            have Fg26 := Lib.hid (heap_keep SB6.out Fg25.out)
                            refine wpAnyH_ready (rs := [7]) (by kernel_rfl) (by simp) ?_
                            refine AllReadyH.cons rfl (fun K hK => ?_) AllReadyH.nil
                            obtain ⟨⟨z0, z1, z2⟩, f0, f1, f2⟩ := z25_cells FE116.out
                            go_simp
                            have BF := Lib.hid (set3_below B6.out ZE11.out (.int .i64 3) (.string ⟨#[]⟩) (.slice (some ⟨g2, 0, none⟩) 2 2))
                            refine hK.out _ _ (HS8.out _ BF.out) (fun _ => ?_)
                            clear hK z0 z1 z2 f0 f1 f2
                            try simp only [Act.put, List.getElem_toArray, List.getElem_cons_zero, List.getElem_cons_succ, List.setIfInBounds_toArray, List.set_cons_zero, List.set_cons_succ]
                            refine ⟨by kernel_rfl, ?_⟩
                            refine NoPanic.normal ?_
                            go_wp2_with fail
                            go_meet
                            exact ⟨E11, .slice (some ⟨g2, 0, none⟩) 2 2, rfl, set3_self _ _ _ FE116.out, zkids HXQ.out BF.out ((set3_other _ _ _ Ng1E11.out).trans Fg16.out) ((set3_other _ _ _ NE11g2.out.symm).trans Fg26.out), BF.out⟩
                        · go_simp
                          refine hK.out _ _ (HS8.out _ (B2.out.alloc B2.out.size _)) (fun _ => ?_)
                          clear hK
                          try simp only [Act.put, List.getElem_toArray, List.getElem_cons_zero, List.getElem_cons_succ, List.setIfInBounds_toArray, List.set_cons_zero, List.set_cons_succ]
                          obtain ⟨r3, hr3⟩ : ∃ x, r2.alloc (.cells #[.int .i64 0, .string ⟨#[]⟩, .slice none 0 0] 25) = x := ⟨_, rfl⟩
                          obtain ⟨E11, hE11⟩ : ∃ x, r2.heap.size = x := ⟨_, rfl⟩
                          have FE113 := Lib.hid (show r3.heap[E11]? = some (.cells #[.int .i64 0, .string ⟨#[]⟩, .slice none 0 0] 25) by rw [← hr3, ← hE11]; exact at_push _ _)
                          have SB3 := Lib.hid (show Below r2.heap.size r2 r3 by rw [← hr3]; exact (Below.refl _ r2).alloc (Nat.le_refl _) _)
                          have B3 := Lib.hid (B2.out.trans (SB3.out.mono B2.out.size))
                          have ZE11 := Lib.hid (show W4.heap.size ≤ E11 by rw [← hE11]; exact B2.out.size)
                          have Ng1E11 := Lib.hid (show g1 ≠ E11 by rw [← hE11]; exact Nat.ne_of_lt (heap_lt Fg12.out))
                          rw [hr3, hE11]
                          clear hr3 hE11
                          have Fg13 := Lib.hid (heap_keep SB3.out Fg12.out)
                          refine wpAnyH_ready (rs := [3]) (by kernel_rfl) (by simp) ?_
                          refine AllReadyH.cons rfl (fun K hK => ?_) AllReadyH.nil
                          go_simp
                          refine (of_any _ _ _ _ _).mono ?_
                          rintro e r4 ⟨rfl, hg⟩
                          have B4 := Lib.hid (B3.out.trans (hg.below.mono B3.out.size))
                          have SB4 := Lib.hid hg.below
                          clear hg
                          refine hK.out _ _ (HS8.out _ B4.out) (fun _ => ?_)
                          clear hK
                          try simp only [Act.put, List.getElem_toArray, List.getElem_cons_zero, List.getElem_cons_succ, List.setIfInBounds_toArray, List.set_cons_zero, List.set_cons_succ]
                          have Fg14 := Lib.hid (heap_keep SB4.out Fg13.out)
                          have FE114 := Lib.hid (heap_keep SB4.out FE113.out)
                          refine wpAnyH_ready (rs := [4]) (by kernel_rfl) (by simp) ?_
                          refine AllReadyH.cons rfl (fun K hK => ?_) AllReadyH.nil
                          go_simp
                          refine hK.out _ _ (HS8.out _ (B4.out.alloc B4.out.size _)) (fun _ => ?_)
                          clear hK
                          try simp only [Act.put, List.getElem_toArray, List.getElem_cons_zero, List.getElem_cons_succ, List.setIfInBounds_toArray, List.set_cons_zero, List.set_cons_succ]
                          obtain ⟨r5, hr5⟩ : ∃ x, r4.alloc (.cells #[.int .i64 1, .string ⟨#[99]⟩, .slice none 0 0, .int .i64 6, .string ⟨#[]⟩, .slice (some ⟨g1, 0, none⟩) 1 1] 25) = x := ⟨_, rfl⟩
                          obtain ⟨g2, hg2⟩ : ∃ x, r4.heap.size = x := ⟨_, rfl⟩
                          have Fg25 := Lib.hid (show r5.heap[g2]? = some (.cells #[.int .i64 1, .string ⟨#[99]⟩, .slice none 0 0, .int .i64 6, .string ⟨#[]⟩, .slice (some ⟨g1, 0, none⟩) 1 1] 25) by rw [← hr5, ← hg2]; exact at_push _ _)
                          have SB5 := Lib.hid (show Below r4.heap.size r4 r5 by rw [← hr5]; exact (Below.refl _ r4).alloc (Nat.le_refl _) _)
                          have B5 := Lib.hid (B4.out.trans (SB5.out.mono B4.out.size))
                          have Zg2 := Lib.hid (show W4.heap.size ≤ g2 by rw [← hg2]; exact B4.out.size)
                          have Ng1g2 := Lib.hid (show g1 ≠ g2 by rw [← hg2]; exact Nat.ne_of_lt (heap_lt Fg14.out))
                          have NE11g2 := Lib.hid (show E11 ≠ g2 by rw [← hg2]; exact Nat.ne_of_lt (heap_lt FE114.out))
                          rw [hr5, hg2]
                          clear hr5 hg2
                          have Fg15 := Lib.hid (heap_keep SB5.out Fg14.out)
                          have FE115 := Lib.hid (heap_keep SB5.out FE114.out)
                          refine wpAnyH_ready (rs := [5]) (by kernel_rfl) (by simp) ?_
                          refine AllReadyH.cons rfl (fun K hK => ?_) AllReadyH.nil
                          go_simp
                          refine (of_any _ _ _ _ _).mono ?_
                          rintro e r6 ⟨rfl, hg⟩
                          have B6 := Lib.hid (B5.out.trans (hg.below.mono B5.out.size))
                          have SB6 := Lib.hid hg.below
                          clear hg
                          refine hK.out _ _ (HS8.out _ B6.out) (fun _ => ?_)
                          clear hK
                          try simp only [Act.put, List.getElem_toArray, List.getElem_cons_zero, List.getElem_cons_succ, List.setIfInBounds_toArray, List.set_cons_zero, List.set_cons_succ]
                          have Fg16 := Lib.hid (heap_keep SB6.out Fg15.out)
                          have FE116 := Lib.hid (heap_keep SB6.out FE115.out)
                          have Fg26 := Lib.hid (heap_keep SB6.out Fg25.out)
                          refine wpAnyH_ready (rs := [7]) (by kernel_rfl) (by simp) ?_
                          refine AllReadyH.cons rfl (fun K hK => ?_) AllReadyH.nil
                          obtain ⟨⟨z0, z1, z2⟩, f0, f1, f2⟩ := z25_cells FE116.out
                          go_simp
                          have BF := Lib.hid (set3_below B6.out ZE11.out (.int .i64 3) (.string ⟨#[]⟩) (.slice (some ⟨g2, 0, none⟩) 2 2))
                          refine hK.out _ _ (HS8.out _ BF.out) (fun _ => ?_)
                          clear hK z0 z1 z2 f0 f1 f2
                          try simp only [Act.put, List.getElem_toArray, List.getElem_cons_zero, List.getElem_cons_succ, List.setIfInBounds_toArray, List.set_cons_zero, List.set_cons_succ]
                          refine ⟨by kernel_rfl, ?_⟩
                          refine NoPanic.normal ?_
                          go_wp2_with fail
                          go_meet
                          exact ⟨E11, .slice (some ⟨g2, 0, none⟩) 2 2, rfl, set3_self _ _ _ FE116.out, zkids HXQ.out BF.out ((set3_other _ _ _ Ng1E11.out).trans Fg16.out) ((set3_other _ _ _ NE11g2.out.symm).trans Fg26.out), BF.out⟩
                      · go_simp
                        refine hK.out _ _ (HS8.out _ (B1.out.alloc B1.out.size _)) (fun _ => ?_)
                        clear hK
                        try simp only [Act.put, List.getElem_toArray, List.getElem_cons_zero, List.getElem_cons_succ, List.setIfInBounds_toArray, List.set_cons_zero, List.set_cons_succ]
                        obtain ⟨r2, hr2⟩ : ∃ x, r1.alloc (.cells #[.int .i64 0, .string ⟨#[]⟩, .slice none 0 0] 25) = x := ⟨_, rfl⟩
                        obtain ⟨E11, hE11⟩ : ∃ x, r1.heap.size = x := ⟨_, rfl⟩
                        have FE112 := Lib.hid (show r2.heap[E11]? = some (.cells #[.int .i64 0, .string ⟨#[]⟩, .slice none 0 0] 25) by rw [← hr2, ← hE11]; exact at_push _ _)
                        have SB2 := Lib.hid (show Below r1.heap.size r1 r2 by rw [← hr2]; exact (Below.refl _ r1).alloc (Nat.le_refl _) _)
                        have B2 := Lib.hid (B1.out.trans (SB2.out.mono B1.out.size))
                        have ZE11 := Lib.hid (show W4.heap.size ≤ E11 by rw [← hE11]; exact B1.out.size)
                        rw [hr2, hE11]
                        clear hr2 hE11
                        refine wpAnyH_ready (rs := [2]) (by kernel_rfl) (by simp) ?_
                        refine AllReadyH.cons rfl (fun K hK => ?_) AllReadyH.nil
                        go_simp
                        refine hK.out _ _ (HS8.out _ (B2.out.alloc B2.out.size _)) (fun _ => ?_)
                        clear hK
                        try simp only [Act.put, List.getElem_toArray, List.getElem_cons_zero, List.getElem_cons_succ, List.setIfInBounds_toArray, List.set_cons_zero, List.set_cons_succ]
                        obtain ⟨r3, hr3⟩ : ∃ x, r2.alloc (.cells #[.int .i64 k, .string ⟨#[]⟩, u] 25) = x := ⟨_, rfl⟩
                        obtain ⟨g1, hg1⟩ : ∃ x, r2.heap.size = x := ⟨_, rfl⟩
                        have Fg13 := Lib.hid (show r3.heap[g1]? = some (.cells #[.int .i64 k, .string ⟨#[]⟩, u] 25) by rw [← hr3, ← hg1]; exact at_push _ _)
                        have SB3 := Lib.hid (show Below r2.heap.size r2 r3 by rw [← hr3]; exact (Below.refl _ r2).alloc (Nat.le_refl _) _)
                        have B3 := Lib.hid (B2.out.trans (SB3.out.mono B2.out.size))
                        have Zg1 := Lib.hid (show W4.heap.size ≤ g1 by rw [← hg1]; exact B2.out.size)
                        have NE11g1 := Lib.hid (show E11 ≠ g1 by rw [← hg1]; exact Nat.ne_of_lt (heap_lt FE112.out))
                        rw [hr3, hg1]
                        clear hr3 hg1
                        have FE113 := Lib.hid (heap_keep SB3.out FE112.out)
                        refine wpAnyH_ready (rs := [3]) (by kernel_rfl) (by simp) ?_
                        refine AllReadyH.cons rfl (fun K hK => ?_) AllReadyH.nil
                        go_simp
                        refine (of_any _ _ _ _ _).mono ?_
                        rintro e r4 ⟨rfl, hg⟩
                        have B4 := Lib.hid (B3.out.trans (hg.below.mono B3.out.size))
                        have SB4 := Lib.hid hg.below
                        clear hg
                        refine hK.out _ _ (HS8.out _ B4.out) (fun _ => ?_)
                        clear hK
                        try simp only [Act.put, List.getElem_toArray, List.getElem_cons_zero, List.getElem_cons_succ, List.setIfInBounds_toArray, List.set_cons_zero, List.set_cons_succ]
                        have FE114 := Lib.hid (heap_keep SB4.out FE113.out)
                        have Fg14 := Lib.hid (heap_keep SB4.out Fg13.out)
                        refine wpAnyH_ready (rs := [4]) (by kernel_rfl) (by simp) ?_
                        refine AllReadyH.cons rfl (fun K hK => ?_) AllReadyH.nil
                        go_simp
                        refine hK.out _ _ (HS8.out _ (B4.out.alloc B4.out.size _)) (fun _ => ?_)
                        clear hK
                        try simp only [Act.put, List.getElem_toArray, List.getElem_cons_zero, List.getElem_cons_succ, List.setIfInBounds_toArray, List.set_cons_zero, List.set_cons_succ]
                        obtain ⟨r5, hr5⟩ : ∃ x, r4.alloc (.cells #[.int .i64 1, .string ⟨#[99]⟩, .slice none 0 0, .int .i64 6, .string ⟨#[]⟩, .slice (some ⟨g1, 0, none⟩) 1 1] 25) = x := ⟨_, rfl⟩
                        obtain ⟨g2, hg2⟩ : ∃ x, r4.heap.size = x := ⟨_, rfl⟩
                        have Fg25 := Lib.hid (show r5.heap[g2]? = some (.cells #[.int .i64 1, .string ⟨#[99]⟩, .slice none 0 0, .int .i64 6, .string ⟨#[]⟩, .slice (some ⟨g1, 0, none⟩) 1 1] 25) by rw [← hr5, ← hg2]; exact at_push _ _)
                        have SB5 := Lib.hid (show Below r4.heap.size r4 r5 by rw [← hr5]; exact (Below.refl _ r4).alloc (Nat.le_refl _) _)
                        have B5 := Lib.hid (B4.out.trans (SB5.out.mono B4.out.size))
                        have Zg2 := Lib.hid (show W4.heap.size ≤ g2 by rw [← hg2]; exact B4.out.size)
                        have NE11g2 := Lib.hid (show E11 ≠ g2 by rw [← hg2]; exact Nat.ne_of_lt (heap_lt FE114.out))
                        have Ng1g2 := Lib.hid (show g1 ≠ g2 by rw [← hg2]; exact Nat.ne_of_lt (heap_lt Fg14.out))
                        rw [hr5, hg2]
                        clear hr5 hg2
                        have FE115 := Lib.hid (heap_keep SB5.out FE114.out)
                        have Fg15 := Lib.hid (heap_keep SB5.out Fg14.out)
                        refine wpAnyH_ready (rs := [5]) (by kernel_rfl) (by simp) ?_
                        refine AllReadyH.cons rfl (fun K hK => ?_) AllReadyH.nil
                        go_simp
                        refine (of_any _ _ _ _ _).mono ?_
                        rintro e r6 ⟨rfl, hg⟩
                        have B6 := Lib.hid (B5.out.trans (hg.below.mono B5.out.size))
                        have SB6 := Lib.hid hg.below
                        clear hg
                        refine hK.out _ _ (HS8.out _ B6.out) (fun _ => ?_)
                        clear hK
                        try simp only [Act.put, List.getElem_toArray, List.getElem_cons_zero, List.getElem_cons_succ, List.setIfInBounds_toArray, List.set_cons_zero, List.set_cons_succ]
                        have FE116 := Lib.hid (heap_keep SB6.out FE115.out)
                        have Fg16 := Lib.hid (heap_keep SB6.out Fg15.out)
                        have Fg26 := Lib.hid (heap_keep SB6.out Fg25.out)
                        refine wpAnyH_ready (rs := [7]) (by kernel_rfl) (by simp) ?_
                        refine AllReadyH.cons rfl (fun K hK => ?_) AllReadyH.nil
                        obtain ⟨⟨z0, z1, z2⟩, f0, f1, f2⟩ := z25_cells FE116.out
                        go_simp
                        have BF := Lib.hid (set3_below B6.out ZE11.out (.int .i64 3) (.string ⟨#[]⟩) (.slice (some ⟨g2, 0, none⟩) 2 2))
                        refine hK.out _ _ (HS8.out _ BF.out) (fun _ => ?_)
                        clear hK z0 z1 z2 f0 f1 f2
                        try simp only [Act.put, List.getElem_toArray, List.getElem_cons_zero, List.getElem_cons_succ, List.setIfInBounds_toArray, List.set_cons_zero, List.set_cons_succ]
                        refine ⟨by kernel_rfl, ?_⟩
                        refine NoPanic.normal ?_
                        go_wp2_with fail
                        go_meet
                        exact ⟨E11, .slice (some ⟨g2, 0, none⟩) 2 2, rfl, set3_self _ _ _ FE116.out, zkids HXQ.out BF.out ((set3_other _ _ _ NE11g1.out.symm).trans Fg16.out) ((set3_other _ _ _ NE11g2.out.symm).trans Fg26.out), BF.out⟩
                    · go_simp
                      refine hK.out _ _ (HS8.out _ (B0.out.alloc B0.out.size _)) (fun _ => ?_)
                      clear hK
                      try simp only [Act.put, List.getElem_toArray, List.getElem_cons_zero, List.getElem_cons_succ, List.setIfInBounds_toArray, List.set_cons_zero, List.set_cons_succ]
                      obtain ⟨r1, hr1⟩ : ∃ x, r0.alloc (.cells #[.int .i64 k, .string ⟨#[]⟩, u] 25) = x := ⟨_, rfl⟩
                      obtain ⟨g1, hg1⟩ : ∃ x, r0.heap.size = x := ⟨_, rfl⟩
                      have Fg11 := Lib.hid (show r1.heap[g1]? = some (.cells #[.int .i64 k, .string ⟨#[]⟩, u] 25) by rw [← hr1, ← hg1]; exact at_push _ _)
                      have SB1 := Lib.hid (show Below r0.heap.size r0 r1 by rw [← hr1]; exact (Below.refl _ r0).alloc (Nat.le_refl _) _)
                      have B1 := Lib.hid (B0.out.trans (SB1.out.mono B0.out.size))
                      have Zg1 := Lib.hid (show W4.heap.size ≤ g1 by rw [← hg1]; exact B0.out.size)
                      rw [hr1, hg1]
                      clear hr1 hg1
                      refine wpAnyH_ready (rs := [0, 6]) (by kernel_rfl) (by simp) ?_
                      refine AllReadyH.cons rfl (fun K hK => ?_) (AllReadyH.cons rfl (fun K hK => ?_) AllReadyH.nil)
                      · go_simp
                        refine (label_any _ _).mono ?_
                        rintro e r2 ⟨rfl, hg⟩
                        have B2 := Lib.hid (B1.out.trans (hg.below.mono B1.out.size))
                        have SB2 := Lib.hid hg.below
                        clear hg
                        refine hK.out _ _ (HS8.out _ B2.out) (fun _ => ?_)
                        clear hK
                        try simp only [Act.put, List.getElem_toArray, List.getElem_cons_zero, List.getElem_cons_succ, List.setIfInBounds_toArray, List.set_cons_zero, List.set_cons_succ]
                        have Fg12 := Lib.hid (heap_keep SB2.out Fg11.out)
                        refine wpAnyH_ready (rs := [3, 6]) (by kernel_rfl) (by simp) ?_
                        refine AllReadyH.cons rfl (fun K hK => ?_) (AllReadyH.cons rfl (fun K hK => ?_) AllReadyH.nil)
                        · go_simp
                          refine (of_any _ _ _ _ _).mono ?_
                          rintro e r3 ⟨rfl, hg⟩
                          have B3 := Lib.hid (B2.out.trans (hg.below.mono B2.out.size))
                          have SB3 := Lib.hid hg.below
                          clear hg
                          refine hK.out _ _ (HS8.out _ B3.out) (fun _ => ?_)
                          clear hK
                          try simp only [Act.put, List.getElem_toArray, List.getElem_cons_zero, List.getElem_cons_succ, List.setIfInBounds_toArray, List.set_cons_zero, List.set_cons_succ]
                          have Fg13 := Lib.hid (heap_keep SB3.out Fg12.out)
                          refine wpAnyH_ready (rs := [4, 6]) (by kernel_rfl) (by simp) ?_
                          refine AllReadyH.cons rfl (fun K hK => ?_) (AllReadyH.cons rfl (fun K hK => ?_) AllReadyH.nil)
                          · go_simp
                            refine hK.out _ _ (HS8.out _ (B3.out.alloc B3.out.size _)) (fun _ => ?_)
                            clear hK
                            try simp only [Act.put, List.getElem_toArray, List.getElem_cons_zero, List.getElem_cons_succ, List.setIfInBounds_toArray, List.set_cons_zero, List.set_cons_succ]
                            obtain ⟨r4, hr4⟩ : ∃ x, r3.alloc (.cells #[.int .i64 1, .string ⟨#[99]⟩, .slice none 0 0, .int .i64 6, .string ⟨#[]⟩, .slice (some ⟨g1, 0, none⟩) 1 1] 25) = x := ⟨_, rfl⟩
                            obtain ⟨g2, hg2⟩ : ∃ x, r3.heap.size = x := ⟨_, rfl⟩
                            have Fg24 := Lib.hid (show r4.heap[g2]? = some (.cells #[.int .i64 1, .string ⟨#[99]⟩, .slice none 0 0, .int .i64 6, .string ⟨#[]⟩, .slice (some ⟨g1, 0, none⟩) 1 1] 25) by rw [← hr4, ← hg2]; exact at_push _ _)
                            have SB4 := Lib.hid (show Below r3.heap.size r3 r4 by rw [← hr4]; exact (Below.refl _ r3).alloc (Nat.le_refl _) _)
                            have B4 := Lib.hid (B3.out.trans (SB4.out.mono B3.out.size))
                            have Zg2 := Lib.hid (show W4.heap.size ≤ g2 by rw [← hg2]; exact B3.out.size)
                            have Ng1g2 := Lib.hid (show g1 ≠ g2 by rw [← hg2]; exact Nat.ne_of_lt (heap_lt Fg13.out))
                            rw [hr4, hg2]
                            clear hr4 hg2
                            have Fg14 := Lib.hid (heap_keep SB4.out Fg13.out)
                            refine wpAnyH_ready (rs := [5, 6]) (by kernel_rfl) (by simp) ?_
                            refine AllReadyH.cons rfl (fun K hK => ?_) (AllReadyH.cons rfl (fun K hK => ?_) AllReadyH.nil)
                            · go_simp
                              refine (of_any _ _ _ _ _).mono ?_
                              rintro e r5 ⟨rfl, hg⟩
                              have B5 := Lib.hid (B4.out.trans (hg.below.mono B4.out.size))
                              have SB5 := Lib.hid hg.below
                              clear hg
                              refine hK.out _ _ (HS8.out _ B5.out) (fun _ => ?_)
                              clear hK
                              try simp only [Act.put, List.getElem_toArray, List.getElem_cons_zero, List.getElem_cons_succ, List.setIfInBounds_toArray, List.set_cons_zero, List.set_cons_succ]
                              have Fg15 := Lib.hid (heap_keep SB5.out Fg14.out)
                              have Fg25 := Lib.hid (heap_keep SB5.out Fg24.out)
                              refine wpAnyH_ready (rs := [6]) (by kernel_rfl) (by simp) ?_
                              refine AllReadyH.cons rfl (fun K hK => ?_) AllReadyH.nil
                              go_simp
                              refine hK.out _ _ (HS8.out _ (B5.out.alloc B5.out.size _)) (fun _ => ?_)
                              clear hK
                              try simp only [Act.put, List.getElem_toArray, List.getElem_cons_zero, List.getElem_cons_succ, List.setIfInBounds_toArray, List.set_cons_zero, List.set_cons_succ]
                              obtain ⟨r6, hr6⟩ : ∃ x, r5.alloc (.cells #[.int .i64 0, .string ⟨#[]⟩, .slice none 0 0] 25) = x := ⟨_, rfl⟩
                              obtain ⟨E11, hE11⟩ : ∃ x, r5.heap.size = x := ⟨_, rfl⟩
                              have FE116 := Lib.hid (show r6.heap[E11]? = some (.cells #[.int .i64 0, .string ⟨#[]⟩, .slice none 0 0] 25) by rw [← hr6, ← hE11]; exact at_push _ _)
                              have SB6 := Lib.hid (show Below r5.heap.size r5 r6 by rw [← hr6]; exact (Below.refl _ r5).alloc (Nat.le_refl _) _)
                              have B6 := Lib.hid (B5.out.trans (SB6.out.mono B5.out.size))
                              have ZE11 := Lib.hid (show W4.heap.size ≤ E11 by rw [← hE11]; exact B5.out.size)
                              have Ng1E11 := Lib.hid (show g1 ≠ E11 by rw [← hE11]; exact Nat.ne_of_lt (heap_lt Fg15.out))
                              have Ng2E11 := Lib.hid (show g2 ≠ E11 by rw [← hE11]; exact Nat.ne_of_lt (heap_lt Fg25.out))
                              rw [hr6, hE11]
                              clear hr6 hE11
                              have Fg16 := Lib.hid (heap_keep SB6.out Fg15.out)
                              have Fg26 := Lib.hid (heap_keep SB6.out Fg25.out)
                              refine wpAnyH_ready (rs := [7]) (by kernel_rfl) (by simp) ?_
                              refine AllReadyH.cons rfl (fun K hK => ?_) AllReadyH.nil
                              obtain ⟨⟨z0, z1, z2⟩, f0, f1, f2⟩ := z25_cells FE116.out
                              go_simp
                              have BF := Lib.hid (set3_below B6.out ZE11.out (.int .i64 3) (.string ⟨#[]⟩) (.slice (some ⟨g2, 0, none⟩) 2 2))
                              refine hK.out _ _ (HS8.out _ BF.out) (fun _ => ?_)
                              clear hK z0 z1 z2 f0 f1 f2
                              try simp only [Act.put, List.getElem_toArray, List.getElem_cons_zero, List.getElem_cons_succ, List.setIfInBounds_toArray, List.set_cons_zero, List.set_cons_succ]
                              refine ⟨by kernel_rfl, ?_⟩
                              refine NoPanic.normal ?_
                              go_wp2_with fail
                              go_meet
                              exact ⟨E11, .slice (some ⟨g2, 0, none⟩) 2 2, rfl, set3_self _ _ _ FE116.out, zkids HXQ.out BF.out ((set3_other _ _ _ Ng1E11.out).trans Fg16.out) ((set3_other _ _ _ Ng2E11.out).trans Fg26.out), BF.out⟩
                            · go_simp
                              refine hK.out _ _ (HS8.out _ (B4.out.alloc B4.out.size _)) (fun _ => ?_)
                              clear hK
                              try simp only [Act.put, List.getElem_toArray, List.getElem_cons_zero, List.getElem_cons_succ, List.setIfInBounds_toArray, List.set_cons_zero, List.set_cons_succ]
                              obtain ⟨r5, hr5⟩ : ∃ x, r4.alloc (.cells #[.int .i64 0, .string ⟨#[]⟩, .slice none 0 0] 25) = x := ⟨_, rfl⟩
                              obtain ⟨E11, hE11⟩ : ∃ x, r4.heap.size = x := ⟨_, rfl⟩
                              have FE115 := Lib.hid (show r5.heap[E11]? = some (.cells #[.int .i64 0, .string ⟨#[]⟩, .slice none 0 0] 25) by rw [← hr5, ← hE11]; exact at_push _ _)
                              have SB5 := Lib.hid (show Below r4.heap.size r4 r5 by rw [← hr5]; exact (Below.refl _ r4).alloc (Nat.le_refl _) _)
                              have B5 := Lib.hid (B4.out.trans (SB5.out.mono B4.out.size))
                              have ZE11 := Lib.hid (show W4.heap.size ≤ E11 by rw [← hE11]; exact B4.out.size)
                              have Ng1E11 := Lib.hid (show g1 ≠ E11 by rw [← hE11]; exact Nat.ne_of_lt (heap_lt Fg14.out))
                              have Ng2E11 := Lib.hid (show g2 ≠ E11 by rw [← hE11]; exact Nat.ne_of_lt (heap_lt Fg24.out))
                              rw [hr5, hE11]
                              clear hr5 hE11
                              have Fg15 := Lib.hid (heap_keep SB5.out Fg14.out)
                              have Fg25 := Lib.hid (heap_keep SB5.out Fg24.out)
                              refine wpAnyH_ready (rs := [5]) (by kernel_rfl) (by simp) ?_
                              refine AllReadyH.cons rfl (fun K hK => ?_) AllReadyH.nil
                              go_simp
                              refine (of_any _ _ _ _ _).mono ?_
                              rintro e r6 ⟨rfl, hg⟩
                              have B6 := Lib.hid (B5.out.trans (hg.below.mono B5.out.size))
                              have SB6 := Lib.hid hg.below
                              clear hg
                              refine hK.out _ _ (HS8.out _ B6.out) (fun _ => ?_)
                              clear hK
                              try simp only [Act.put, List.getElem_toArray, List.getElem_cons_zero, List.getElem_cons_succ, List.setIfInBounds_toArray, List.set_cons_zero, List.set_cons_succ]
                              have Fg16 := Lib.hid (heap_keep SB6.out Fg15.out)
                              have Fg26 := Lib.hid (heap_keep SB6.out Fg25.out)
                              have FE116 := Lib.hid (heap_keep SB6.out FE115.out)
                              refine wpAnyH_ready (rs := [7]) (by kernel_rfl) (by simp) ?_
                              refine AllReadyH.cons rfl (fun K hK => ?_) AllReadyH.nil
                              obtain ⟨⟨z0, z1, z2⟩, f0, f1, f2⟩ := z25_cells FE116.out
                              go_simp
                              have BF := Lib.hid (set3_below B6.out ZE11.out (.int .i64 3) (.string ⟨#[]⟩) (.slice (some ⟨g2, 0, none⟩) 2 2))
                              refine hK.out _ _ (HS8.out _ BF.out) (fun _ => ?_)
                              clear hK z0 z1 z2 f0 f1 f2
                              try simp only [Act.put, List.getElem_toArray, List.getElem_cons_zero, List.getElem_cons_succ, List.setIfInBounds_toArray, List.set_cons_zero, List.set_cons_succ]
                              refine ⟨by kernel_rfl, ?_⟩
                              refine NoPanic.normal ?_
                              go_wp2_with fail
                              go_meet
                              exact ⟨E11, .slice (some ⟨g2, 0, none⟩) 2 2, rfl, set3_self _ _ _ FE116.out, zkids HXQ.out BF.out ((set3_other _ _ _ Ng1E11.out).trans Fg16.out) ((set3_other _ _ _ Ng2E11.out).trans Fg26.out), BF.out⟩
                          · go_simp
                            refine hK.out _ _ (HS8.out _ (B3.out.alloc B3.out.size _)) (fun _ => ?_)
                            clear hK
                            try simp only [Act.put, List.getElem_toArray, List.getElem_cons_zero, List.getElem_cons_succ, List.setIfInBounds_toArray, List.set_cons_zero, List.set_cons_succ]
                            obtain ⟨r4, hr4⟩ : ∃ x, r3.alloc (.cells #[.int .i64 0, .string ⟨#[]⟩, .slice none 0 0] 25) = x := ⟨_, rfl⟩
                            obtain ⟨E11, hE11⟩ : ∃ x, r3.heap.size = x := ⟨_, rfl⟩
                            have FE114 := Lib.hid (show r4.heap[E11]? = some (.cells #[.int .i64 0, .string ⟨#[]⟩, .slice none 0 0] 25) by rw [← hr4, ← hE11]; exact at_push _ _)
                            have SB4 := Lib.hid (show Below r3.heap.size r3 r4 by rw [← hr4]; exact (Below.refl _ r3).alloc (Nat.le_refl _) _)
                            have B4 := Lib.hid (B3.out.trans (SB4.out.mono B3.out.size))
                            have ZE11 := Lib.hid (show W4.heap.size ≤ E11 by rw [← hE11]; exact B3.out.size)
                            have Ng1E11 := Lib.hid (show g1 ≠ E11 by rw [← hE11]; exact Nat.ne_of_lt (heap_lt Fg13.out))
                            rw [hr4, hE11]
                            clear hr4 hE11
                            have Fg14 := Lib.hid (heap_keep SB4.out Fg13.out)
                            refine wpAnyH_ready (rs := [4]) (by kernel_rfl) (by simp) ?_
                            refine AllReadyH.cons rfl (fun K hK => ?_) AllReadyH.nil
                            go_simp
                            refine hK.out _ _ (HS8.out _ (B4.out.alloc B4.out.size _)) (fun _ => ?_)
                            clear hK
                            try simp only [Act.put, List.getElem_toArray, List.getElem_cons_zero, List.getElem_cons_succ, List.setIfInBounds_toArray, List.set_cons_zero, List.set_cons_succ]
                            obtain ⟨r5, hr5⟩ : ∃ x, r4.alloc (.cells #[.int .i64 1, .string ⟨#[99]⟩, .slice none 0 0, .int .i64 6, .string ⟨#[]⟩, .slice (some ⟨g1, 0, none⟩) 1 1] 25) = x := ⟨_, rfl⟩
                            obtain ⟨g2, hg2⟩ : ∃ x, r4.heap.size = x := ⟨_, rfl⟩
                            have Fg25 := Lib.hid (show r5.heap[g2]? = some (.cells #[.int .i64 1, .string ⟨#[99]⟩, .slice none 0 0, .int .i64 6, .string ⟨#[]⟩, .slice (some ⟨g1, 0, none⟩) 1 1] 25) by rw [← hr5, ← hg2]; exact at_push _ _)
                            have SB5 := Lib.hid (show Below r4.heap.size r4 r5 by rw [← hr5]; exact (Below.refl _ r4).alloc (Nat.le_refl _) _)
                            have B5 := Lib.hid (B4.out.trans (SB5.out.mono B4.out.size))
                            have Zg2 := Lib.hid (show W4.heap.size ≤ g2 by rw [← hg2]; exact B4.out.size)
                            have Ng1g2 := Lib.hid (show g1 ≠ g2 by rw [← hg2]; exact Nat.ne_of_lt (heap_lt Fg14.out))
                            have NE11g2 := Lib.hid (show E11 ≠ g2 by rw [← hg2]; exact Nat.ne_of_lt (heap_lt FE114.out))
                            rw [hr5, hg2]
                            clear hr5 hg2
                            have Fg15 := Lib.hid (heap_keep SB5.out Fg14.out)
                            have FE115 := Lib.hid (heap_keep SB5.out FE114.out)
                            refine wpAnyH_ready (rs := [5]) (by kernel_rfl) (by simp) ?_
                            refine AllReadyH.cons rfl (fun K hK => ?_) AllReadyH.nil
                            go_simp
                            refine (of_any _ _ _ _ _).mono ?_
                            rintro e r6 ⟨rfl, hg⟩
                            have B6 := Lib.hid (B5.out.trans (hg.below.mono B5.out.size))
                            have SB6 := Lib.hid hg.below
                            clear hg
                            refine hK.out _ _ (HS8.out _ B6.out) (fun _ => ?_)
                            clear hK
                            try simp only [Act.put, List.getElem_toArray, List.getElem_cons_zero, List.getElem_cons_succ, List.setIfInBounds_toArray, List.set_cons_zero, List.set_cons_succ]
                            have Fg16 := Lib.hid (heap_keep SB6.out Fg15.out)
                            have FE116 := Lib.hid (heap_keep SB6.out FE115.out)
                            have Fg26 := Lib.hid (heap_keep SB6.out Fg25.out)
                            refine wpAnyH_ready (rs := [7]) (by kernel_rfl) (by simp) ?_
                            refine AllReadyH.cons rfl (fun K hK => ?_) AllReadyH.nil
                            obtain ⟨⟨z0, z1, z2⟩, f0, f1, f2⟩ := z25_cells FE116.out
                            go_simp
                            have BF := Lib.hid (set3_below B6.out ZE11.out (.int .i64 3) (.string ⟨#[]⟩) (.slice (some ⟨g2, 0, none⟩) 2 2))
                            refine hK.out _ _ (HS8.out _ BF.out) (fun _ => ?_)
                            clear hK z0 z1 z2 f0 f1 f2
                            try simp only [Act.put, List.getElem_toArray, List.getElem_cons_zero, List.getElem_cons_succ, List.setIfInBounds_toArray, List.set_cons_zero, List.set_cons_succ]
                            refine ⟨by kernel_rfl, ?_⟩
                            refine NoPanic.normal ?_
                            go_wp2_with fail
                            go_meet
                            exact ⟨E11, .slice (some ⟨g2, 0, none⟩) 2 2, rfl, set3_self _ _ _ FE116.out, zkids HXQ.out BF.out ((set3_other _ _ _ Ng1E11.out).trans Fg16.out) ((set3_other _ _ _ NE11g2.out.symm).trans Fg26.out), BF.out⟩
                        · go_simp
                          refine hK.out _ _ (HS8.out _ (B2.out.alloc B2.out.size _)) (fun _ => ?_)
                          clear hK
                          try simp only [Act.put, List.getElem_toArray, List.getElem_cons_zero, List.getElem_cons_succ, List.setIfInBounds_toArray, List.set_cons_zero, List.set_cons_succ]
                          obtain ⟨r3, hr3⟩ : ∃ x, r2.alloc (.cells #[.int .i64 0, .string ⟨#[]⟩, .slice none 0 0] 25) = x := ⟨_, rfl⟩
                          obtain ⟨E11, hE11⟩ : ∃ x, r2.heap.size = x := ⟨_, rfl⟩
                          have FE113 := Lib.hid (show r3.heap[E11]? = some (.cells #[.int .i64 0, .string ⟨#[]⟩, .slice none 0 0] 25) by rw [← hr3, ← hE11]; exact at_push _ _)
                          have SB3 := Lib.hid (show Below r2.heap.size r2 r3 by rw [← hr3]; exact (Below.refl _ r2).alloc (Nat.le_refl _) _)
                          have B3 := Lib.hid (B2.out.trans (SB3.out.mono B2.out.size))
                          have ZE11 := Lib.hid (show W4.heap.size ≤ E11 by rw [← hE11]; exact B2.out.size)
                          have Ng1E11 := Lib.hid (show g1 ≠ E11 by rw [← hE11]; exact Nat.ne_of_lt (heap_lt Fg12.out))
                          rw [hr3, hE11]
                          clear hr3 hE11
                          have Fg13 := Lib.hid (heap_keep SB3.out Fg12.out)
                          refine wpAnyH_ready (rs := [3]) (by kernel_rfl) (by simp) ?_
                          refine AllReadyH.cons rfl (fun K hK => ?_) AllReadyH.nil
                          go_simp
                          refine (of_any _ _ _ _ _).mono ?_
                          rintro e r4 ⟨rfl, hg⟩
                          have B4 := Lib.hid (B3.out.trans (hg.below.mono B3.out.size))
                          have SB4 := Lib.hid hg.below
                          clear hg
                          refine hK.out _ _ (HS8.out _ B4.out) (fun _ => ?_)
                          clear hK
                          try simp only [Act.put, List.getElem_toArray, List.getElem_cons_zero, List.getElem_cons_succ, List.setIfInBounds_toArray, List.set_cons_zero, List.set_cons_succ]
                          have Fg14 := Lib.hid (heap_keep SB4.out Fg13.out)
                          have FE114 := Lib.hid (heap_keep SB4.out FE113.out)
                          refine wpAnyH_ready (rs := [4]) (by kernel_rfl) (by simp) ?_
                          refine AllReadyH.cons rfl (fun K hK => ?_) AllReadyH.nil
                          go_simp
                          refine hK.out _ _ (HS8.out _ (B4.out.alloc B4.out.size _)) (fun _ => ?_)
                          clear hK
                          try simp only [Act.put, List.getElem_toArray, List.getElem_cons_zero, List.getElem_cons_succ, List.setIfInBounds_toArray, List.set_cons_zero, List.set_cons_succ]
                          obtain ⟨r5, hr5⟩ : ∃ x, r4.alloc (.cells #[.int .i64 1, .string ⟨#[99]⟩, .slice none 0 0, .int .i64 6, .string ⟨#[]⟩, .slice (some ⟨g1, 0, none⟩) 1 1] 25) = x := ⟨_, rfl⟩
                          obtain ⟨g2, hg2⟩ : ∃ x, r4.heap.size = x := ⟨_, rfl⟩
                          have Fg25 := Lib.hid (show r5.heap[g2]? = some (.cells #[.int .i64 1, .string ⟨#[99]⟩, .slice none 0 0, .int .i64 6, .string ⟨#[]⟩, .slice (some ⟨g1, 0, none⟩) 1 1] 25) by rw [← hr5, ← hg2]; exact at_push _ _)
                          have SB5 := Lib.hid (show Below r4.heap.size r4 r5 by rw [← hr5]; exact (Below.refl _ r4).alloc (Nat.le_refl _) _)
                          have B5 := Lib.hid (B4.out.trans (SB5.out.mono B4.out.size))
                          have Zg2 := Lib.hid (show W4.heap.size ≤ g2 by rw [← hg2]; exact B4.out.size)
                          have Ng1g2 := Lib.hid (show g1 ≠ g2 by rw [← hg2]; exact Nat.ne_of_lt (heap_lt Fg14.out))
                          have NE11g2 := Lib.hid (show E11 ≠ g2 by rw [← hg2]; exact Nat.ne_of_lt (heap_lt FE114.out))
                          rw [hr5, hg2]
                          clear hr5 hg2
                          have Fg15 := Lib.hid (heap_keep SB5.out Fg14.out)
                          have FE115 := Lib.hid (heap_keep SB5.out FE114.out)
                          refine wpAnyH_ready (rs := [5]) (by kernel_rfl) (by simp) ?_
                          refine AllReadyH.cons rfl (fun K hK => ?_) AllReadyH.nil
                          go_simp
                          refine (of_any _ _ _ _ _).mono ?_
                          rintro e r6 ⟨rfl, hg⟩
                          have B6 := Lib.hid (B5.out.trans (hg.below.mono B5.out.size))
                          have SB6 := Lib.hid hg.below
                          clear hg
                          refine hK.out _ _ (HS8.out _ B6.out) (fun _ => ?_)
                          clear hK
                          try simp only [Act.put, List.getElem_toArray, List.getElem_cons_zero, List.getElem_cons_succ, List.setIfInBounds_toArray, List.set_cons_zero, List.set_cons_succ]
                          have Fg16 := Lib.hid (heap_keep SB6.out Fg15.out)
                          have FE116 := Lib.hid (heap_keep SB6.out FE115.out)
                          have Fg26 := Lib.hid (heap_keep SB6.out Fg25.out)
                          refine wpAnyH_ready (rs := [7]) (by kernel_rfl) (by simp) ?_
                          refine AllReadyH.cons rfl (fun K hK => ?_) AllReadyH.nil
                          obtain ⟨⟨z0, z1, z2⟩, f0, f1, f2⟩ := z25_cells FE116.out
                          go_simp
                          have BF := Lib.hid (set3_below B6.out ZE11.out (.int .i64 3) (.string ⟨#[]⟩) (.slice (some ⟨g2, 0, none⟩) 2 2))
                          refine hK.out _ _ (HS8.out _ BF.out) (fun _ => ?_)
                          clear hK z0 z1 z2 f0 f1 f2
                          try simp only [Act.put, List.getElem_toArray, List.getElem_cons_zero, List.getElem_cons_succ, List.setIfInBounds_toArray, List.set_cons_zero, List.set_cons_succ]
                          refine ⟨by kernel_rfl, ?_⟩
                          refine NoPanic.normal ?_
                          go_wp2_with fail
                          go_meet
                          exact ⟨E11, .slice (some ⟨g2, 0, none⟩) 2 2, rfl, set3_self _ _ _ FE116.out, zkids HXQ.out BF.out ((set3_other _ _ _ Ng1E11.out).trans Fg16.out) ((set3_other _ _ _ NE11g2.out.symm).trans Fg26.out), BF.out⟩
                      · go_simp
                        refine hK.out _ _ (HS8.out _ (B1.out.alloc B1.out.size _)) (fun _ => ?_)
                        clear hK
                        try simp only [Act.put, List.getElem_toArray, List.getElem_cons_zero, List.getElem_cons_succ, List.setIfInBounds_toArray, List.set_cons_zero, List.set_cons_succ]
                        obtain ⟨r2, hr2⟩ : ∃ x, r1.alloc (.cells #[.int .i64 0, .string ⟨#[]⟩, .slice none 0 0] 25) = x := ⟨_, rfl⟩
                        obtain ⟨E11, hE11⟩ : ∃ x, r1.heap.size = x := ⟨_, rfl⟩
                        have FE112 := Lib.hid (show r2.heap[E11]? = some (.cells #[.int .i64 0, .string ⟨#[]⟩, .slice none 0 0] 25) by rw [← hr2, ← hE11]; exact at_push _ _)
                        have SB2 := Lib.hid (show Below r1.heap.size r1 r2 by rw [← hr2]; exact (Below.refl _ r1).alloc (Nat.le_refl _) _)
                        have B2 := Lib.hid (B1.out.trans (SB2.out.mono B1.out.size))
                        have ZE11 := Lib.hid (show W4.heap.size ≤ E11 by rw [← hE11]; exact B1.out.size)
                        have Ng1E11 := Lib.hid (show g1 ≠ E11 by rw [← hE11]; exact Nat.ne_of_lt (heap_lt Fg11.out))
                        rw [hr2, hE11]
                        clear hr2 hE11
                        have Fg12 := Lib.hid (heap_keep SB2.out Fg11.out)
                        refine wpAnyH_ready (rs := [0]) (by kernel_rfl) (by simp) ?_
                        refine AllReadyH.cons rfl (fun K hK => ?_) AllReadyH.nil
                        go_simp
                        refine (label_any _ _).mono ?_
                        rintro e r3 ⟨rfl, hg⟩
                        have B3 := Lib.hid (B2.out.trans (hg.below.mono B2.out.size))
                        have SB3 := Lib.hid hg.below
                        clear hg
                        refine hK.out _ _ (HS8.out _ B3.out) (fun _ => ?_)
                        clear hK
                        try simp only [Act.put, List.getElem_toArray, List.getElem_cons_zero, List.getElem_cons_succ, List.setIfInBounds_toArray, List.set_cons_zero, List.set_cons_succ]
                        have Fg13 := Lib.hid (heap_keep SB3.out Fg12.out)
                        have FE113 := Lib.hid (heap_keep SB3.out FE112.out)
                        refine wpAnyH_ready (rs := [3]) (by kernel_rfl) (by simp) ?_
                        refine AllReadyH.cons rfl (fun K hK => ?_) AllReadyH.nil
                        go_simp
                        refine (of_any _ _ _ _ _).mono ?_
                        rintro e r4 ⟨rfl, hg⟩
                        have B4 := Lib.hid (B3.out.trans (hg.below.mono B3.out.size))
                        have SB4 := Lib.hid hg.below
                        clear hg
                        refine hK.out _ _ (HS8.out _ B4.out) (fun _ => ?_)
                        clear hK
                        try simp only [Act.put, List.getElem_toArray, List.getElem_cons_zero, List.getElem_cons_succ, List.setIfInBounds_toArray, List.set_cons_zero, List.set_cons_succ]
                        have Fg14 := Lib.hid (heap_keep SB4.out Fg13.out)
                        have FE114 := Lib.hid (heap_keep SB4.out FE113.out)
                        refine wpAnyH_ready (rs := [4]) (by kernel_rfl) (by simp) ?_
                        refine AllReadyH.cons rfl (fun K hK => ?_) AllReadyH.nil
                        go_simp
                        refine hK.out _ _ (HS8.out _ (B4.out.alloc B4.out.size _)) (fun _ => ?_)
                        clear hK
                        try simp only [Act.put, List.getElem_toArray, List.getElem_cons_zero, List.getElem_cons_succ, List.setIfInBounds_toArray, List.set_cons_zero, List.set_cons_succ]
                        obtain ⟨r5, hr5⟩ : ∃ x, r4.alloc (.cells #[.int .i64 1, .string ⟨#[99]⟩, .slice none 0 0, .int .i64 6, .string ⟨#[]⟩, .slice (some ⟨g1, 0, none⟩) 1 1] 25) = x := ⟨_, rfl⟩
                        obtain ⟨g2, hg2⟩ : ∃ x, r4.heap.size = x := ⟨_, rfl⟩
                        have Fg25 := Lib.hid (show r5.heap[g2]? = some (.cells #[.int .i64 1, .string ⟨#[99]⟩, .slice none 0 0, .int .i64 6, .string ⟨#[]⟩, .slice (some ⟨g1, 0, none⟩) 1 1] 25) by rw [← hr5, ← hg2]; exact at_push _ _)
                        have SB5 := Lib.hid (show Below r4.heap.size r4 r5 by rw [← hr5]; exact (Below.refl _ r4).alloc (Nat.le_refl _) _)
                        have B5 := Lib.hid (B4.out.trans (SB5.out.mono B4.out.size))
                        have Zg2 := Lib.hid (show W4.heap.size ≤ g2 by rw [← hg2]; exact B4.out.size)
                        have Ng1g2 := Lib.hid (show g1 ≠ g2 by rw [← hg2]; exact Nat.ne_of_lt (heap_lt Fg14.out))
                        have NE11g2 := Lib.hid (show E11 ≠ g2 by rw [← hg2]; exact Nat.ne_of_lt (heap_lt FE114.out))
                        rw [hr5, hg2]
                        clear hr5 hg2
                        have Fg15 := Lib.hid (heap_keep SB5.out Fg14.out)
                        have FE115 := Lib.hid (heap_keep SB5.out FE114.out)
                        refine wpAnyH_ready (rs := [5]) (by kernel_rfl) (by simp) ?_
                        refine AllReadyH.cons rfl (fun K hK => ?_) AllReadyH.nil
                        go_simp
                        refine (of_any _ _ _ _ _).mono ?_
                        rintro e r6 ⟨rfl, hg⟩
                        have B6 := Lib.hid (B5.out.trans (hg.below.mono B5.out.size))
                        have SB6 := Lib.hid hg.below
                        clear hg
                        refine hK.out _ _ (HS8.out _ B6.out) (fun _ => ?_)
                        clear hK
                        try simp only [Act.put, List.getElem_toArray, List.getElem_cons_zero, List.getElem_cons_succ, List.setIfInBounds_toArray, List.set_cons_zero, List.set_cons_succ]
                        have Fg16 := Lib.hid (heap_keep SB6.out Fg15.out)
                        have FE116 := Lib.hid (heap_keep SB6.out FE115.out)
                        have Fg26 := Lib.hid (heap_keep SB6.out Fg25.out)
                        refine wpAnyH_ready (rs := [7]) (by kernel_rfl) (by simp) ?_
                        refine AllReadyH.cons rfl (fun K hK => ?_) AllReadyH.nil
                        obtain ⟨⟨z0, z1, z2⟩, f0, f1, f2⟩ := z25_cells FE116.out
                        go_simp
                        have BF := Lib.hid (set3_below B6.out ZE11.out (.int .i64 3) (.string ⟨#[]⟩) (.slice (some ⟨g2, 0, none⟩) 2 2))
                        refine hK.out _ _ (HS8.out _ BF.out) (fun _ => ?_)
                        clear hK z0 z1 z2 f0 f1 f2
                        try simp only [Act.put, List.getElem_toArray, List.getElem_cons_zero, List.getElem_cons_succ, List.setIfInBounds_toArray, List.set_cons_zero, List.set_cons_succ]
                        refine ⟨by kernel_rfl, ?_⟩
                        refine NoPanic.normal ?_
                        go_wp2_with fail
                        go_meet
                        exact ⟨E11, .slice (some ⟨g2, 0, none⟩) 2 2, rfl, set3_self _ _ _ FE116.out, zkids HXQ.out BF.out ((set3_other _ _ _ Ng1E11.out).trans Fg16.out) ((set3_other _ _ _ NE11g2.out.symm).trans Fg26.out), BF.out⟩
                    · go_simp
                      refine hK.out _ _ (HS8.out _ (B0.out.alloc B0.out.size _)) (fun _ => ?_)
                      clear hK
                      try simp only [Act.put, List.getElem_toArray, List.getElem_cons_zero, List.getElem_cons_succ, List.setIfInBounds_toArray, List.set_cons_zero, List.set_cons_succ]
                      obtain ⟨r1, hr1⟩ : ∃ x, r0.alloc (.cells #[.int .i64 0, .string ⟨#[]⟩, .slice none 0 0] 25) = x := ⟨_, rfl⟩
                      obtain ⟨E11, hE11⟩ : ∃ x, r0.heap.size = x := ⟨_, rfl⟩
                      have FE111 := Lib.hid (show r1.heap[E11]? = some (.cells #[.int .i64 0, .string ⟨#[]⟩, .slice none 0 0] 25) by rw [← hr1, ← hE11]; exact at_push _ _)
                      have SB1 := Lib.hid (show Below r0.heap.size r0 r1 by rw [← hr1]; exact (Below.refl _ r0).alloc (Nat.le_refl _) _)
                      have B1 := Lib.hid (B0.out.trans (SB1.out.mono B0.out.size))
                      have ZE11 := Lib.hid (show W4.heap.size ≤ E11 by rw [← hE11]; exact B0.out.size)
                      rw [hr1, hE11]
                      clear hr1 hE11
                      refine wpAnyH_ready (rs := [0, 2]) (by kernel_rfl) (by simp) ?_
                      refine AllReadyH.cons rfl (fun K hK => ?_) (AllReadyH.cons rfl (fun K hK => ?_) AllReadyH.nil)
                      · go_simp
                        refine (label_any _ _).mono ?_
                        rintro e r2 ⟨rfl, hg⟩
                        have B2 := Lib.hid (B1.out.trans (hg.below.mono B1.out.size))
                        have SB2 := Lib.hid hg.below
                        clear hg
                        refine hK.out _ _ (HS8.out _ B2.out) (fun _ => ?_)
                        clear hK
                        try simp only [Act.put, List.getElem_toArray, List.getElem_cons_zero, List.getElem_cons_succ, List.setIfInBounds_toArray, List.set_cons_zero, List.set_cons_succ]
                        have FE112 := Lib.hid (heap_keep SB2.out FE111.out)
                        refine wpAnyH_ready (rs := [2]) (by kernel_rfl) (by simp) ?_
                        refine AllReadyH.cons rfl (fun K hK => ?_) AllReadyH.nil
                        go_simp
                        refine hK.out _ _ (HS8.out _ (B2.out.alloc B2.out.size _)) (fun _ => ?_)
                        clear hK
                        try simp only [Act.put, List.getElem_toArray, List.getElem_cons_zero, List.getElem_cons_succ, List.setIfInBounds_toArray, List.set_cons_zero, List.set_cons_succ]
                        obtain ⟨r3, hr3⟩ : ∃ x, r2.alloc (.cells #[.int .i64 k, .string ⟨#[]⟩, u] 25) = x := ⟨_, rfl⟩
                        obtain ⟨g1, hg1⟩ : ∃ x, r2.heap.size = x := ⟨_, rfl⟩
                        have Fg13 := Lib.hid (show r3.heap[g1]? = some (.cells #[.int .i64 k, .string ⟨#[]⟩, u] 25) by rw [← hr3, ← hg1]; exact at_push _ _)
                        have SB3 := Lib.hid (show Below r2.heap.size r2 r3 by rw [← hr3]; exact (Below.refl _ r2).alloc (Nat.le_refl _) _)
                        have B3 := Lib.hid (B2.out.trans (SB3.out.mono B2.out.size))
                        have Zg1 := Lib.hid (show W4.heap.size ≤ g1 by rw [← hg1]; exact B2.out.size)
                        have NE11g1 := Lib.hid (show E11 ≠ g1 by rw [← hg1]; exact Nat.ne_of_lt (heap_lt FE112.out))
                        rw [hr3, hg1]
                        clear hr3 hg1
                        have FE113 := Lib.hid (heap_keep SB3.out FE112.out)
                        refine wpAnyH_ready (rs := [3]) (by kernel_rfl) (by simp) ?_
                        refine AllReadyH.cons rfl (fun K hK => ?_) AllReadyH.nil
                        go_simp
                        refine (of_any _ _ _ _ _).mono ?_
                        rintro e r4 ⟨rfl, hg⟩
                        have B4 := Lib.hid (B3.out.trans (hg.below.mono B3.out.size))
                        have SB4 := Lib.hid hg.below
                        clear hg
                        refine hK.out _ _ (HS8.out _ B4.out) (fun _ => ?_)
                        clear hK
                        try simp only [Act.put, List.getElem_toArray, List.getElem_cons_zero, List.getElem_cons_succ, List.setIfInBounds_toArray, List.set_cons_zero, List.set_cons_succ]
                        have FE114 := Lib.hid (heap_keep SB4.out FE113.out)
                        have Fg14 := Lib.hid (heap_keep SB4.out Fg13.out)
                        refine wpAnyH_ready (rs := [4]) (by kernel_rfl) (by simp) ?_
                        refine AllReadyH.cons rfl (fun K hK => ?_) AllReadyH.nil
                        go_simp
                        refine hK.out _ _ (HS8.out _ (B4.out.alloc B4.out.size _)) (fun _ => ?_)
                        clear hK
                        try simp only [Act.put, List.getElem_toArray, List.getElem_cons_zero, List.getElem_cons_succ, List.setIfInBounds_toArray, List.set_cons_zero, List.set_cons_succ]
                        obtain ⟨r5, hr5⟩ : ∃ x, r4.alloc (.cells #[.int .i64 1, .string ⟨#[99]⟩, .slice none 0 0, .int .i64 6, .string ⟨#[]⟩, .slice (some ⟨g1, 0, none⟩) 1 1] 25) = x := ⟨_, rfl⟩
                        obtain ⟨g2, hg2⟩ : ∃ x, r4.heap.size = x := ⟨_, rfl⟩
                        have Fg25 := Lib.hid (show r5.heap[g2]? = some (.cells #[.int .i64 1, .string ⟨#[99]⟩, .slice none 0 0, .int .i64 6, .string ⟨#[]⟩, .slice (some ⟨g1, 0, none⟩) 1 1] 25) by rw [← hr5, ← hg2]; exact at_push _ _)
                        have SB5 := Lib.hid (show Below r4.heap.size r4 r5 by rw [← hr5]; exact (Below.refl _ r4).alloc (Nat.le_refl _) _)
                        have B5 := Lib.hid (B4.out.trans (SB5.out.mono B4.out.size))
                        have Zg2 := Lib.hid (show W4.heap.size ≤ g2 by rw [← hg2]; exact B4.out.size)
                        have NE11g2 := Lib.hid (show E11 ≠ g2 by rw [← hg2]; exact Nat.ne_of_lt (heap_lt FE114.out))
                        have Ng1g2 := Lib.hid (show g1 ≠ g2 by rw [← hg2]; exact Nat.ne_of_lt (heap_lt Fg14.out))
                        rw [hr5, hg2]
                        clear hr5 hg2
                        have FE115 := Lib.hid (heap_keep SB5.out FE114.out)
                        have Fg15 := Lib.hid (heap_keep SB5.out Fg14.out)
                        refine wpAnyH_ready (rs := [5]) (by kernel_rfl) (by simp) ?_
                        refine AllReadyH.cons rfl (fun K hK => ?_) AllReadyH.nil
                        go_simp
                        refine (of_any _ _ _ _ _).mono ?_
                        rintro e r6 ⟨rfl, hg⟩
                        have B6 := Lib.hid (B5.out.trans (hg.below.mono B5.out.size))
                        have SB6 := Lib.hid hg.below
                        clear hg
                        refine hK.out _ _ (HS8.out _ B6.out) (fun _ => ?_)
                        clear hK
                        try simp only [Act.put, List.getElem_toArray, List.getElem_cons_zero, List.getElem_cons_succ, List.setIfInBounds_toArray, List.set_cons_zero, List.set_cons_succ]
                        have FE116 := Lib.hid (heap_keep SB6.out FE115.out)
                        have Fg16 := Lib.hid (heap_keep SB6.out Fg15.out)
                        have Fg26 := Lib.hid (heap_keep SB6.out Fg25.out)
                        refine wpAnyH_ready (rs := [7]) (by kernel_rfl) (by simp) ?_
                        refine AllReadyH.cons rfl (fun K hK => ?_) AllReadyH.nil
                        obtain ⟨⟨z0, z1, z2⟩, f0, f1, f2⟩ := z25_cells FE116.out
                        go_simp
                        have BF := Lib.hid (set3_below B6.out ZE11.out (.int .i64 3) (.string ⟨#[]⟩) (.slice (some ⟨g2, 0, none⟩) 2 2))
                        refine hK.out _ _ (HS8.out _ BF.out) (fun _ => ?_)
                        clear hK z0 z1 z2 f0 f1 f2
                        try simp only [Act.put, List.getElem_toArray, List.getElem_cons_zero, List.getElem_cons_succ, List.setIfInBounds_toArray, List.set_cons_zero, List.set_cons_succ]
                        refine ⟨by kernel_rfl, ?_⟩
                        refine NoPanic.normal ?_
                        go_wp2_with fail
                        go_meet
                        exact ⟨E11, .slice (some ⟨g2, 0, none⟩) 2 2, rfl, set3_self _ _ _ FE116.out, zkids HXQ.out BF.out ((set3_other _ _ _ NE11g1.out.symm).trans Fg16.out) ((set3_other _ _ _ NE11g2.out.symm).trans Fg26.out), BF.out⟩
                      · go_simp
                        refine hK.out _ _ (HS8.out _ (B1.out.alloc B1.out.size _)) (fun _ => ?_)
                        clear hK
                        try simp only [Act.put, List.getElem_toArray, List.getElem_cons_zero, List.getElem_cons_succ, List.setIfInBounds_toArray, List.set_cons_zero, List.set_cons_succ]
                        obtain ⟨r2, hr2⟩ : ∃ x, r1.alloc (.cells #[.int .i64 k, .string ⟨#[]⟩, u] 25) = x := ⟨_, rfl⟩
                        obtain ⟨g1, hg1⟩ : ∃ x, r1.heap.size = x := ⟨_, rfl⟩
                        have Fg12 := Lib.hid (show r2.heap[g1]? = some (.cells #[.int .i64 k, .string ⟨#[]⟩, u] 25) by rw [← hr2, ← hg1]; exact at_push _ _)
                        have SB2 := Lib.hid (show Below r1.heap.size r1 r2 by rw [← hr2]; exact (Below.refl _ r1).alloc (Nat.le_refl _) _)
                        have B2 := Lib.hid (B1.out.trans (SB2.out.mono B1.out.size))
                        have Zg1 := Lib.hid (show W4.heap.size ≤ g1 by rw [← hg1]; exact B1.out.size)
                        have NE11g1 := Lib.hid (show E11 ≠ g1 by rw [← hg1]; exact Nat.ne_of_lt (heap_lt FE111.out))
                        rw [hr2, hg1]
                        clear hr2 hg1
                        have FE112 := Lib.hid (heap_keep SB2.out FE111.out)
                        refine wpAnyH_ready (rs := [0]) (by kernel_rfl) (by simp) ?_
                        refine AllReadyH.cons rfl (fun K hK => ?_) AllReadyH.nil
                        go_simp
                        refine (label_any _ _).mono ?_
                        rintro e r3 ⟨rfl, hg⟩
                        have B3 := Lib.hid (B2.out.trans (hg.below.mono B2.out.size))
                        have SB3 := Lib.hid hg.below
                        clear hg
                        refine hK.out _ _ (HS8.out _ B3.out) (fun _ => ?_)
                        clear hK
                        try simp only [Act.put, List.getElem_toArray, List.getElem_cons_zero, List.getElem_cons_succ, List.setIfInBounds_toArray, List.set_cons_zero, List.set_cons_succ]
                        have FE113 := Lib.hid (heap_keep SB3.out FE112.out)
                        have Fg13 := Lib.hid (heap_keep SB3.out Fg12.out)
                        refine wpAnyH_ready (rs := [3]) (by kernel_rfl) (by simp) ?_
                        refine AllReadyH.cons rfl (fun K hK => ?_) AllReadyH.nil
                        go_simp
                        refine (of_any _ _ _ _ _).mono ?_
                        rintro e r4 ⟨rfl, hg⟩
                        have B4 := Lib.hid (B3.out.trans (hg.below.mono B3.out.size))
                        have SB4 := Lib.hid hg.below
                        clear hg
                        refine hK.out _ _ (HS8.out _ B4.out) (fun _ => ?_)
                        clear hK
                        try simp only [Act.put, List.getElem_toArray, List.getElem_cons_zero, List.getElem_cons_succ, List.setIfInBounds_toArray, List.set_cons_zero, List.set_cons_succ]
                        have FE114 := Lib.hid (heap_keep SB4.out FE113.out)
                        have Fg14 := Lib.hid (heap_keep SB4.out Fg13.out)
                        refine wpAnyH_ready (rs := [4]) (by kernel_rfl) (by simp) ?_
                        refine AllReadyH.cons rfl (fun K hK => ?_) AllReadyH.nil
                        go_simp
                        refine hK.out _ _ (HS8.out _ (B4.out.alloc B4.out.size _)) (fun _ => ?_)
                        clear hK
                        try simp only [Act.put, List.getElem_toArray, List.getElem_cons_zero, List.getElem_cons_succ, List.setIfInBounds_toArray, List.set_cons_zero, List.set_cons_succ]
                        obtain ⟨r5, hr5⟩ : ∃ x, r4.alloc (.cells #[.int .i64 1, .string ⟨#[99]⟩, .slice none 0 0, .int .i64 6, .string ⟨#[]⟩, .slice (some ⟨g1, 0, none⟩) 1 1] 25) = x := ⟨_, rfl⟩
                        obtain ⟨g2, hg2⟩ : ∃ x, r4.heap.size = x := ⟨_, rfl⟩
                        have Fg25 := Lib.hid (show r5.heap[g2]? = some (.cells #[.int .i64 1, .string ⟨#[99]⟩, .slice none 0 0, .int .i64 6, .string ⟨#[]⟩, .slice (some ⟨g1, 0, none⟩) 1 1] 25) by rw [← hr5, ← hg2]; exact at_push _ _)
                        have SB5 := Lib.hid (show Below r4.heap.size r4 r5 by rw [← hr5]; exact (Below.refl _ r4).alloc (Nat.le_refl _) _)
                        have B5 := Lib.hid (B4.out.trans (SB5.out.mono B4.out.size))
                        have Zg2 := Lib.hid (show W4.heap.size ≤ g2 by rw [← hg2]; exact B4.out.size)
                        have NE11g2 := Lib.hid (show E11 ≠ g2 by rw [← hg2]; exact Nat.ne_of_lt (heap_lt FE114.out))
                        have Ng1g2 := Lib.hid (show g1 ≠ g2 by rw [← hg2]; exact Nat.ne_of_lt (heap_lt Fg14.out))
                        rw [hr5, hg2]
                        clear hr5 hg2
                        have FE115 := Lib.hid (heap_keep SB5.out FE114.out)
                        have Fg15 := Lib.hid (heap_keep SB5.out Fg14.out)
                        refine wpAnyH_ready (rs := [5]) (by kernel_rfl) (by simp) ?_
                        refine AllReadyH.cons rfl (fun K hK => ?_) AllReadyH.nil
                        go_simp
                        refine (of_any _ _ _ _ _).mono ?_
                        rintro e r6 ⟨rfl, hg⟩
                        have B6 := Lib.hid (B5.out.trans (hg.below.mono B5.out.size))
                        have SB6 := Lib.hid hg.below
                        clear hg
                        refine hK.out _ _ (HS8.out _ B6.out) (fun _ => ?_)
                        clear hK
                        try simp only [Act.put, List.getElem_toArray, List.getElem_cons_zero, List.getElem_cons_succ, List.setIfInBounds_toArray, List.set_cons_zero, List.set_cons_succ]
                        have FE116 := Lib.hid (heap_keep SB6.out FE115.out)
                        have Fg16 := Lib.hid (heap_keep SB6.out Fg15.out)
                        have Fg26 := Lib.hid (heap_keep SB6.out Fg25.out)
                        refine wpAnyH_ready (rs := [7]) (by kernel_rfl) (by simp) ?_
                        refine AllReadyH.cons rfl (fun K hK => ?_) AllReadyH.nil
                        obtain ⟨⟨z0, z1, z2⟩, f0, f1, f2⟩ := z25_cells FE116.out
                        go_simp
                        have BF := Lib.hid (set3_below B6.out ZE11.out (.int .i64 3) (.string ⟨#[]⟩) (.slice (some ⟨g2, 0, none⟩) 2 2))
                        refine hK.out _ _ (HS8.out _ BF.out) (fun _ => ?_)
                        clear hK z0 z1 z2 f0 f1 f2
                        try simp only [Act.put, List.getElem_toArray, List.getElem_cons_zero, List.getElem_cons_succ, List.setIfInBounds_toArray, List.set_cons_zero, List.set_cons_succ]
                        refine ⟨by kernel_rfl, ?_⟩
                        refine NoPanic.normal ?_
                        go_wp2_with fail
                        go_meet
                        exact ⟨E11, .slice (some ⟨g2, 0, none⟩) 2 2, rfl, set3_self _ _ _ FE116.out, zkids HXQ.out BF.out ((set3_other _ _ _ NE11g1.out.symm).trans Fg16.out) ((set3_other _ _ _ NE11g2.out.symm).trans Fg26.out), BF.out⟩
                  case rest =>
                    obtain ⟨E11, kz, rfl, hbx11, hkz, hb5⟩ := hcut
                    obtain ⟨W5, rfl⟩ : ∃ x, x = wc := ⟨_, rfl⟩
                    have hbx8 := heap_keep hb5 HBXS.out.1
                    have hbx10 := heap_keep hb5 HBXS.out.2.1
                    have hxq := HXQ.out.keep (w' := W5) (q' := fun b => b < W5.heap.size) (fun b hq => hb5.block b hq) (fun b hq => Nat.lt_of_lt_of_le hq hb5.size)
                    have HXQ5 := Lib.hid (fun W (h : Below W5.heap.size W5 W) => hxq.keep (w' := W) (q' := fun b => b < W.heap.size) (fun b hq => h.block b hq) (fun b hq => Nat.lt_of_lt_of_le hq h.size))
                    have HXV := Lib.hid (fun W (h : Below W5.heap.size W5 W) => (XV.box ((HXQ5.out W h).xr (fun b hb => hb)) : XV W.heap.size W (.agg #[.int .i64 k, .string ⟨#[]⟩, u]) (X.mk k ⟨#[]⟩ ks)))
                    have HYV := Lib.hid (fun W (h : Below W5.heap.size W5 W) => (XV.box ((HXQ5.out W h).xr (fun b hb => hb)) : XV W.heap.size W (.agg #[.int .i64 k, .string ⟨#[98]⟩, u]) (X.mk k ⟨#[98]⟩ ks)))
                    have HZV := Lib.hid (fun W (h : Below W5.heap.size W5 W) => (XV.box ((hkz.bel h).mono h.size) : XV W.heap.size W (.agg #[.int .i64 3, .string ⟨#[]⟩, kz]) (X.mk 3 ⟨#[]⟩ [labX ⟨#[99]⟩, X.mk 6 ⟨#[]⟩ [X.mk k ⟨#[]⟩ ks]])))
                    have HS9 := Lib.hid (fun W (h : Below W5.heap.size W5 W) => And.intro (box3 (heap_keep h hbx8)) (And.intro (box3 (heap_keep h hbx10)) (box3 (heap_keep h hbx11))))
                    have hlx : (X.mk k ⟨#[]⟩ ks).lit := lit_mk (by decide) HBXS.out.2.2
                    have HLX := Lib.hid (And.intro hlx (And.intro (lit_mk (k := k) (s := ⟨#[98]⟩) (by decide) HBXS.out.2.2 : (X.mk k ⟨#[98]⟩ ks).lit) (lit_mk (by decide) (fun y hy => by
                      rcases List.mem_cons.1 hy with rfl | hy
                      · exact lit_lab _ (by decide)
                      · rw [List.mem_singleton] at hy
                        subst hy
                        exact lit_mk (by decide) (fun y hy => by rw [List.mem_singleton] at hy; subst hy; exact hlx)) : (X.mk 3 ⟨#[]⟩ [labX ⟨#[99]⟩, X.mk 6 ⟨#[]⟩ [X.mk k ⟨#[]⟩ ks]]).lit)))
                    have HB5 := Lib.hid (HB4.out.trans (hb5.mono HB4.out.size))
                    obtain ⟨r3, hr3'⟩ : ∃ r, n % 3 = r := ⟨_, rfl⟩
                    have hr3 : (n : Int) % 3 = (r3 : Int) := by omega
                    have hr32 : r3 ≤ 2 := by omega
                    have hr3t : (n : Int).tmod 3 = (r3 : Int) := by rw [Int.tmod_eq_emod_of_nonneg (by omega)]; exact hr3
                    have hr3w : IntKind.i64.wrap (r3 : Int) = (r3 : Int) := IntWalk.i64_in _ ⟨by omega, by omega⟩
                    clear hr3 hr3' hlx hxq hkz hb5 hbx8 hbx10 hbx11 HXQ HS8 HBXS HB4
                    go_upto_region 31 with (fail)
                    obtain ⟨r0, hr0⟩ : ∃ x, W5.drew = x := ⟨_, rfl⟩
                    have B0 := Lib.hid (show Below W5.heap.size W5 r0 by rw [← hr0]; exact (Below.refl _ W5).drew)
                    refine wp_region_noPanic ?_
                    refine wp_region_held_drew (S := fun W => ((W.cell? ⟨E8, 0, none⟩ = some (.int .i64 k) ∧ W.cell? ⟨E8, 1, none⟩ = some (.string ⟨#[]⟩) ∧ W.cell? ⟨E8, 2, none⟩ = some u) ∧ (W.cell? ⟨E10, 0, none⟩ = some (.int .i64 k) ∧ W.cell? ⟨E10, 1, none⟩ = some (.string ⟨#[98]⟩) ∧ W.cell? ⟨E10, 2, none⟩ = some u) ∧ W.cell? ⟨E11, 0, none⟩ = some (.int .i64 3) ∧ W.cell? ⟨E11, 1, none⟩ = some (.string ⟨#[]⟩) ∧ W.cell? ⟨E11, 2, none⟩ = some kz)) (by kernel_rfl) (by rw [hr0]; exact HS9.out _ B0.out) (fun hHeld => ?_)
                    clear hHeld
                    rw [hr0]
                    clear hr0
                    refine wpAnyH_take (i := 0) (v := .agg #[.int .i64 k, .string ⟨#[]⟩, u]) rfl (by kernel_rfl) (by kernel_rfl) (by kernel_rfl) (fun _ _ _ h => (h : False).elim) (Or.inl ⟨by rfl, ?_⟩) (HS9.out _ B0.out) ?_
                    · intro w hSw
                      obtain ⟨⟨hs0, hs1, hs2⟩, ⟨ht0, ht1, ht2⟩, hv0, hv1, hv2⟩ := hSw
                      go_simp
                    try simp only [Act.put, List.getElem_toArray, List.getElem_cons_zero, List.getElem_cons_succ, List.setIfInBounds_toArray, List.set_cons_zero, List.set_cons_succ]
                    refine wpAnyH_take (i := 1) (v := .agg #[.int .i64 k, .string ⟨#[98]⟩, u]) rfl (by kernel_rfl) (by kernel_rfl) (by kernel_rfl) (fun _ _ _ h => (h : False).elim) (Or.inl ⟨by rfl, ?_⟩) (HS9.out _ B0.out) ?_
                    · intro w hSw
                      obtain ⟨⟨hs0, hs1, hs2⟩, ⟨ht0, ht1, ht2⟩, hv0, hv1, hv2⟩ := hSw
                      go_simp
                    try simp only [Act.put, List.getElem_toArray, List.getElem_cons_zero, List.getElem_cons_succ, List.setIfInBounds_toArray, List.set_cons_zero, List.set_cons_succ]
                    refine wpAnyH_take (i := 3) (v := .int .i64 n) rfl (by kernel_rfl) (by kernel_rfl) (by kernel_rfl) (fun _ _ _ h => (h : False).elim) (Or.inl ⟨by rfl, ?_⟩) (HS9.out _ B0.out) ?_
                    · intro w hSw
                      obtain ⟨⟨hs0, hs1, hs2⟩, ⟨ht0, ht1, ht2⟩, hv0, hv1, hv2⟩ := hSw
                      go_simp
                    try simp only [Act.put, List.getElem_toArray, List.getElem_cons_zero, List.getElem_cons_succ, List.setIfInBounds_toArray, List.set_cons_zero, List.set_cons_succ]
                    refine wpAnyH_take (i := 4) (v := .int .i64 r3) rfl (by kernel_rfl) (by kernel_rfl) (by kernel_rfl) (fun _ _ _ h => (h : False).elim) (Or.inl ⟨by rfl, ?_⟩) (HS9.out _ B0.out) ?_
                    · intro w hSw
                      obtain ⟨⟨hs0, hs1, hs2⟩, ⟨ht0, ht1, ht2⟩, hv0, hv1, hv2⟩ := hSw
                      (go_simp; try rw [hr3t])
                    try simp only [Act.put, List.getElem_toArray, List.getElem_cons_zero, List.getElem_cons_succ, List.setIfInBounds_toArray, List.set_cons_zero, List.set_cons_succ]
                    refine wpAnyH_ready (rs := [2]) (by kernel_rfl) (by simp) ?_
                    refine AllReadyH.cons rfl (fun K hK => ?_) AllReadyH.nil
                    go_simp
                    refine hK.out _ _ (HS9.out _ (B0.out.alloc B0.out.size _)) (fun _ => ?_)
                    clear hK
                    try simp only [Act.put, List.getElem_toArray, List.getElem_cons_zero, List.getElem_cons_succ, List.setIfInBounds_toArray, List.set_cons_zero, List.set_cons_succ]
                    obtain ⟨r1, hr1⟩ : ∃ x, r0.alloc (.cells #[.string ⟨#[97]⟩, .string ⟨#[97]⟩] 9) = x := ⟨_, rfl⟩
                    obtain ⟨ga, hga⟩ : ∃ x, r0.heap.size = x := ⟨_, rfl⟩
                    have Fga := Lib.hid (show r1.heap[ga]? = some (.cells #[.string ⟨#[97]⟩, .string ⟨#[97]⟩] 9) by rw [← hr1, ← hga]; exact at_push _ _)
                    have B1 := Lib.hid (show Below W5.heap.size W5 r1 by rw [← hr1]; exact B0.out.alloc B0.out.size _)
                    rw [hr1, hga]
                    clear hr1 hga
                    refine wpAnyH_take (i := 5) (v := .slice (some ⟨ga, 0, none⟩) r3 2) rfl (by kernel_rfl) (by kernel_rfl) (by kernel_rfl) (fun _ _ _ h => (h : False).elim) (Or.inl ⟨by rfl, ?_⟩) (HS9.out _ B1.out) ?_
                    · intro w hSw
                      obtain ⟨⟨hs0, hs1, hs2⟩, ⟨ht0, ht1, ht2⟩, hv0, hv1, hv2⟩ := hSw
                      (go_simp; try (intro h; exact absurd h (by omega)))
                    try simp only [Act.put, List.getElem_toArray, List.getElem_cons_zero, List.getElem_cons_succ, List.setIfInBounds_toArray, List.set_cons_zero, List.set_cons_succ]
                    refine wpAnyH_ready (rs := [6]) (by kernel_rfl) (by simp) ?_
                    refine AllReadyH.cons rfl (fun K hK => ?_) AllReadyH.nil
                    go_simp
                    refine (does_any (N := r1.heap.size) (M := r1.heap.size) (HXV.out _ B1.out) (HYV.out _ B1.out) (Nat.le_refl _) (HLX.out.1) (HLX.out.2.1) (((SR_two Fga.out).take (k := r3) (by simp; omega)).mono2 (heap_lt Fga.out)) (Nat.le_refl _)).mono ?_
                    rintro e r2 ⟨rfl, hq⟩
                    have B2 := Lib.hid (B1.out.trans (hq.mono B1.out.size))
                    clear hq
                    refine hK.out _ _ (HS9.out _ B2.out) (fun _ => ?_)
                    clear hK
                    try simp only [Act.put, List.getElem_toArray, List.getElem_cons_zero, List.getElem_cons_succ, List.setIfInBounds_toArray, List.set_cons_zero, List.set_cons_succ]
                    refine wpAnyH_take (i := 7) (v := .bool false) rfl (by kernel_rfl) (by kernel_rfl) (by kernel_rfl) (fun _ _ _ h => (h : False).elim) (Or.inl ⟨by rfl, ?_⟩) (HS9.out _ B2.out) ?_
                    · intro w hSw
                      obtain ⟨⟨hs0, hs1, hs2⟩, ⟨ht0, ht1, ht2⟩, hv0, hv1, hv2⟩ := hSw
                      go_simp
                    try simp only [Act.put, List.getElem_toArray, List.getElem_cons_zero, List.getElem_cons_succ, List.setIfInBounds_toArray, List.set_cons_zero, List.set_cons_succ]
                    refine wpAnyH_take (i := 8) (v := .bool false) rfl (by kernel_rfl) (by kernel_rfl) (by kernel_rfl) (fun _ _ _ h => (h : False).elim) (Or.inl ⟨by rfl, ?_⟩) (HS9.out _ B2.out) ?_
                    · intro w hSw
                      obtain ⟨⟨hs0, hs1, hs2⟩, ⟨ht0, ht1, ht2⟩, hv0, hv1, hv2⟩ := hSw
                      go_simp
                    try simp only [Act.put, List.getElem_toArray, List.getElem_cons_zero, List.getElem_cons_succ, List.setIfInBounds_toArray, List.set_cons_zero, List.set_cons_succ]
                    refine wpAnyH_take (i := 9) (v := .agg #[.int .i64 k, .string ⟨#[98]⟩, u]) rfl (by kernel_rfl) (by kernel_rfl) (by kernel_rfl) (fun _ _ _ h => (h : False).elim) (Or.inl ⟨by rfl, ?_⟩) (HS9.out _ B2.out) ?_
                    · intro w hSw
                      obtain ⟨⟨hs0, hs1, hs2⟩, ⟨ht0, ht1, ht2⟩, hv0, hv1, hv2⟩ := hSw
                      go_simp
                    try simp only [Act.put, List.getElem_toArray, List.getElem_cons_zero, List.getElem_cons_succ, List.setIfInBounds_toArray, List.set_cons_zero, List.set_cons_succ]
                    refine wpAnyH_take (i := 10) (v := .agg #[.int .i64 k, .string ⟨#[]⟩, u]) rfl (by kernel_rfl) (by kernel_rfl) (by kernel_rfl) (fun _ _ _ h => (h : False).elim) (Or.inl ⟨by rfl, ?_⟩) (HS9.out _ B2.out) ?_
                    · intro w hSw
                      obtain ⟨⟨hs0, hs1, hs2⟩, ⟨ht0, ht1, ht2⟩, hv0, hv1, hv2⟩ := hSw
                      go_simp
                    try simp only [Act.put, List.getElem_toArray, List.getElem_cons_zero, List.getElem_cons_succ, List.setIfInBounds_toArray, List.set_cons_zero, List.set_cons_succ]
                    refine wpAnyH_ready (rs := [11]) (by kernel_rfl) (by simp) ?_
                    refine AllReadyH.cons rfl (fun K hK => ?_) AllReadyH.nil
                    go_simp
                    refine hK.out _ _ (HS9.out _ (B2.out.alloc B2.out.size _)) (fun _ => ?_)
                    clear hK
                    try simp only [Act.put, List.getElem_toArray, List.getElem_cons_zero, List.getElem_cons_succ, List.setIfInBounds_toArray, List.set_cons_zero, List.set_cons_succ]
                    obtain ⟨r3, hr3⟩ : ∃ x, r2.alloc (.cells #[.string ⟨#[98]⟩] 9) = x := ⟨_, rfl⟩
                    obtain ⟨gb, hgb⟩ : ∃ x, r2.heap.size = x := ⟨_, rfl⟩
                    have Fgb := Lib.hid (show r3.heap[gb]? = some (.cells #[.string ⟨#[98]⟩] 9) by rw [← hr3, ← hgb]; exact at_push _ _)
                    have B3 := Lib.hid (show Below W5.heap.size W5 r3 by rw [← hr3]; exact B2.out.alloc B2.out.size _)
                    rw [hr3, hgb]
                    clear hr3 hgb
                    refine wpAnyH_ready (rs := [12]) (by kernel_rfl) (by simp) ?_
                    refine AllReadyH.cons rfl (fun K hK => ?_) AllReadyH.nil
                    go_simp
                    refine (does_any (N := r3.heap.size) (M := r3.heap.size) (HYV.out _ B3.out) (HXV.out _ B3.out) (Nat.le_refl _) (HLX.out.2.1) (HLX.out.1) ((SR_one Fgb.out).mono2 (heap_lt Fgb.out)) (Nat.le_refl _)).mono ?_
                    rintro e r4 ⟨rfl, hq⟩
                    have B4 := Lib.hid (B3.out.trans (hq.mono B3.out.size))
                    clear hq
                    refine hK.out _ _ (HS9.out _ B4.out) (fun _ => ?_)
                    clear hK
                    try simp only [Act.put, List.getElem_toArray, List.getElem_cons_zero, List.getElem_cons_succ, List.setIfInBounds_toArray, List.set_cons_zero, List.set_cons_succ]
                    refine wpAnyH_take (i := 13) (v := .bool false) rfl (by kernel_rfl) (by kernel_rfl) (by kernel_rfl) (fun _ _ _ h => (h : False).elim) (Or.inl ⟨by rfl, ?_⟩) (HS9.out _ B4.out) ?_
                    · intro w hSw
                      obtain ⟨⟨hs0, hs1, hs2⟩, ⟨ht0, ht1, ht2⟩, hv0, hv1, hv2⟩ := hSw
                      go_simp
                    try simp only [Act.put, List.getElem_toArray, List.getElem_cons_zero, List.getElem_cons_succ, List.setIfInBounds_toArray, List.set_cons_zero, List.set_cons_succ]
                    refine wpAnyH_take (i := 14) (v := .bool false) rfl (by kernel_rfl) (by kernel_rfl) (by kernel_rfl) (fun _ _ _ h => (h : False).elim) (Or.inl ⟨by rfl, ?_⟩) (HS9.out _ B4.out) ?_
                    · intro w hSw
                      obtain ⟨⟨hs0, hs1, hs2⟩, ⟨ht0, ht1, ht2⟩, hv0, hv1, hv2⟩ := hSw
                      go_simp
                    try simp only [Act.put, List.getElem_toArray, List.getElem_cons_zero, List.getElem_cons_succ, List.setIfInBounds_toArray, List.set_cons_zero, List.set_cons_succ]
                    refine wpAnyH_take (i := 15) (v := .bool false) rfl (by kernel_rfl) (by kernel_rfl) (by kernel_rfl) (fun _ _ _ h => (h : False).elim) (Or.inl ⟨by rfl, ?_⟩) (HS9.out _ B4.out) ?_
                    · intro w hSw
                      obtain ⟨⟨hs0, hs1, hs2⟩, ⟨ht0, ht1, ht2⟩, hv0, hv1, hv2⟩ := hSw
                      go_simp
                    try simp only [Act.put, List.getElem_toArray, List.getElem_cons_zero, List.getElem_cons_succ, List.setIfInBounds_toArray, List.set_cons_zero, List.set_cons_succ]
                    refine wpAnyH_take (i := 16) (v := .agg #[.int .i64 3, .string ⟨#[]⟩, kz]) rfl (by kernel_rfl) (by kernel_rfl) (by kernel_rfl) (fun _ _ _ h => (h : False).elim) (Or.inl ⟨by rfl, ?_⟩) (HS9.out _ B4.out) ?_
                    · intro w hSw
                      obtain ⟨⟨hs0, hs1, hs2⟩, ⟨ht0, ht1, ht2⟩, hv0, hv1, hv2⟩ := hSw
                      go_simp
                    try simp only [Act.put, List.getElem_toArray, List.getElem_cons_zero, List.getElem_cons_succ, List.setIfInBounds_toArray, List.set_cons_zero, List.set_cons_succ]
                    refine wpAnyH_take (i := 17) (v := .agg #[.int .i64 k, .string ⟨#[]⟩, u]) rfl (by kernel_rfl) (by kernel_rfl) (by kernel_rfl) (fun _ _ _ h => (h : False).elim) (Or.inl ⟨by rfl, ?_⟩) (HS9.out _ B4.out) ?_
                    · intro w hSw
                      obtain ⟨⟨hs0, hs1, hs2⟩, ⟨ht0, ht1, ht2⟩, hv0, hv1, hv2⟩ := hSw
                      go_simp
                    try simp only [Act.put, List.getElem_toArray, List.getElem_cons_zero, List.getElem_cons_succ, List.setIfInBounds_toArray, List.set_cons_zero, List.set_cons_succ]
                    refine wpAnyH_ready (rs := [18]) (by kernel_rfl) (by simp) ?_
                    refine AllReadyH.cons rfl (fun K hK => ?_) AllReadyH.nil
                    go_simp
                    refine hK.out _ _ (HS9.out _ (B4.out.alloc B4.out.size _)) (fun _ => ?_)
                    clear hK
                    try simp only [Act.put, List.getElem_toArray, List.getElem_cons_zero, List.getElem_cons_succ, List.setIfInBounds_toArray, List.set_cons_zero, List.set_cons_succ]
                    obtain ⟨r5, hr5⟩ : ∃ x, r4.alloc (.cells #[.string ⟨#[97]⟩] 9) = x := ⟨_, rfl⟩
                    obtain ⟨gc, hgc⟩ : ∃ x, r4.heap.size = x := ⟨_, rfl⟩
                    have Fgc := Lib.hid (show r5.heap[gc]? = some (.cells #[.string ⟨#[97]⟩] 9) by rw [← hr5, ← hgc]; exact at_push _ _)
                    have B5 := Lib.hid (show Below W5.heap.size W5 r5 by rw [← hr5]; exact B4.out.alloc B4.out.size _)
                    rw [hr5, hgc]
                    clear hr5 hgc
                    refine wpAnyH_ready (rs := [19]) (by kernel_rfl) (by simp) ?_
                    refine AllReadyH.cons rfl (fun K hK => ?_) AllReadyH.nil
                    go_simp
                    refine (does_any (N := r5.heap.size) (M := r5.heap.size) (HZV.out _ B5.out) (HXV.out _ B5.out) (Nat.le_refl _) (HLX.out.2.2) (HLX.out.1) ((SR_one Fgc.out).mono2 (heap_lt Fgc.out)) (Nat.le_refl _)).mono ?_
                    rintro e r6 ⟨rfl, hq⟩
                    have B6 := Lib.hid (B5.out.trans (hq.mono B5.out.size))
                    clear hq
                    refine hK.out _ _ (HS9.out _ B6.out) (fun _ => ?_)
                    clear hK
                    try simp only [Act.put, List.getElem_toArray, List.getElem_cons_zero, List.getElem_cons_succ, List.setIfInBounds_toArray, List.set_cons_zero, List.set_cons_succ]
                    refine wpAnyH_take (i := 20) (v := .bool false) rfl (by kernel_rfl) (by kernel_rfl) (by kernel_rfl) (fun _ _ _ h => (h : False).elim) (Or.inl ⟨by rfl, ?_⟩) (HS9.out _ B6.out) ?_
                    · intro w hSw
                      obtain ⟨⟨hs0, hs1, hs2⟩, ⟨ht0, ht1, ht2⟩, hv0, hv1, hv2⟩ := hSw
                      go_simp
                    try simp only [Act.put, List.getElem_toArray, List.getElem_cons_zero, List.getElem_cons_succ, List.setIfInBounds_toArray, List.set_cons_zero, List.set_cons_succ]
                    refine wpAnyH_take (i := 21) (v := .bool false) rfl (by kernel_rfl) (by kernel_rfl) (by kernel_rfl) (fun _ _ _ h => (h : False).elim) (Or.inl ⟨by rfl, ?_⟩) (HS9.out _ B6.out) ?_
                    · intro w hSw
                      obtain ⟨⟨hs0, hs1, hs2⟩, ⟨ht0, ht1, ht2⟩, hv0, hv1, hv2⟩ := hSw
                      go_simp
                    try simp only [Act.put, List.getElem_toArray, List.getElem_cons_zero, List.getElem_cons_succ, List.setIfInBounds_toArray, List.set_cons_zero, List.set_cons_succ]
                    refine wpAnyH_take (i := 22) (v := .bool false) rfl (by kernel_rfl) (by kernel_rfl) (by kernel_rfl) (fun _ _ _ h => (h : False).elim) (Or.inl ⟨by rfl, ?_⟩) (HS9.out _ B6.out) ?_
                    · intro w hSw
                      obtain ⟨⟨hs0, hs1, hs2⟩, ⟨ht0, ht1, ht2⟩, hv0, hv1, hv2⟩ := hSw
                      go_simp
                    try simp only [Act.put, List.getElem_toArray, List.getElem_cons_zero, List.getElem_cons_succ, List.setIfInBounds_toArray, List.set_cons_zero, List.set_cons_succ]
                    refine wpAnyH_take (i := 23) (v := .agg #[.int .i64 k, .string ⟨#[98]⟩, u]) rfl (by kernel_rfl) (by kernel_rfl) (by kernel_rfl) (fun _ _ _ h => (h : False).elim) (Or.inl ⟨by rfl, ?_⟩) (HS9.out _ B6.out) ?_
                    · intro w hSw
                      obtain ⟨⟨hs0, hs1, hs2⟩, ⟨ht0, ht1, ht2⟩, hv0, hv1, hv2⟩ := hSw
                      go_simp
                    try simp only [Act.put, List.getElem_toArray, List.getElem_cons_zero, List.getElem_cons_succ, List.setIfInBounds_toArray, List.set_cons_zero, List.set_cons_succ]
                    refine wpAnyH_take (i := 26) (v := .agg #[.int .i64 3, .string ⟨#[]⟩, kz]) rfl (by kernel_rfl) (by kernel_rfl) (by kernel_rfl) (fun _ _ _ h => (h : False).elim) (Or.inl ⟨by rfl, ?_⟩) (HS9.out _ B6.out) ?_
                    · intro w hSw
                      obtain ⟨⟨hs0, hs1, hs2⟩, ⟨ht0, ht1, ht2⟩, hv0, hv1, hv2⟩ := hSw
                      go_simp
                    try simp only [Act.put, List.getElem_toArray, List.getElem_cons_zero, List.getElem_cons_succ, List.setIfInBounds_toArray, List.set_cons_zero, List.set_cons_succ]
                    refine wpAnyH_ready (rs := [24]) (by kernel_rfl) (by simp) ?_
                    refine AllReadyH.cons rfl (fun K hK => ?_) AllReadyH.nil
                    go_simp
                    refine hK.out _ _ (HS9.out _ (B6.out.alloc B6.out.size _)) (fun _ => ?_)
                    clear hK
                    try simp only [Act.put, List.getElem_toArray, List.getElem_cons_zero, List.getElem_cons_succ, List.setIfInBounds_toArray, List.set_cons_zero, List.set_cons_succ]
                    obtain ⟨r7, hr7⟩ : ∃ x, r6.alloc (.cells #[.int .i64 k, .string ⟨#[98]⟩, u] 25) = x := ⟨_, rfl⟩
                    obtain ⟨gd, hgd⟩ : ∃ x, r6.heap.size = x := ⟨_, rfl⟩
                    have Fgd := Lib.hid (show r7.heap[gd]? = some (.cells #[.int .i64 k, .string ⟨#[98]⟩, u] 25) by rw [← hr7, ← hgd]; exact at_push _ _)
                    have B7 := Lib.hid (show Below W5.heap.size W5 r7 by rw [← hr7]; exact B6.out.alloc B6.out.size _)
                    rw [hr7, hgd]
                    clear hr7 hgd
                    refine wpAnyH_ready (rs := [25]) (by kernel_rfl) (by simp) ?_
                    refine AllReadyH.cons rfl (fun K hK => ?_) AllReadyH.nil
                    go_simp
                    refine (of_any _ _ _ _ _).mono ?_
                    rintro e r8 ⟨rfl, hg⟩
                    have B8 := Lib.hid (B7.out.trans (hg.below.mono B7.out.size))
                    have Fge := Lib.hid (heap_keep hg.below Fgd.out)
                    clear hg
                    refine hK.out _ _ (HS9.out _ B8.out) (fun _ => ?_)
                    clear hK
                    try simp only [Act.put, List.getElem_toArray, List.getElem_cons_zero, List.getElem_cons_succ, List.setIfInBounds_toArray, List.set_cons_zero, List.set_cons_succ]
                    refine wpAnyH_ready (rs := [27]) (by kernel_rfl) (by simp) ?_
                    refine AllReadyH.cons rfl (fun K hK => ?_) AllReadyH.nil
                    go_simp
                    refine (does_any (N := r8.heap.size) (M := r8.heap.size) (XV.box (ykids (HXQ5.out _ B8.out) Fge.out)) (HZV.out _ B8.out) (Nat.le_refl _) (lit_mk (by decide) (fun y hy => by rw [List.mem_singleton] at hy; subst hy; exact HLX.out.2.1)) (HLX.out.2.2) (SR_nil2 _ _) (Nat.le_refl _)).mono ?_
                    rintro e r9 ⟨rfl, hq⟩
                    have B9 := Lib.hid (B8.out.trans (hq.mono B8.out.size))
                    clear hq
                    refine hK.out _ _ (HS9.out _ B9.out) (fun _ => ?_)
                    clear hK
                    try simp only [Act.put, List.getElem_toArray, List.getElem_cons_zero, List.getElem_cons_succ, List.setIfInBounds_toArray, List.set_cons_zero, List.set_cons_succ]
                    refine wpAnyH_take (i := 28) (v := .bool false) rfl (by kernel_rfl) (by kernel_rfl) (by kernel_rfl) (fun _ _ _ h => (h : False).elim) (Or.inl ⟨by rfl, ?_⟩) (HS9.out _ B9.out) ?_
                    · intro w hSw
                      obtain ⟨⟨hs0, hs1, hs2⟩, ⟨ht0, ht1, ht2⟩, hv0, hv1, hv2⟩ := hSw
                      go_simp
                    try simp only [Act.put, List.getElem_toArray, List.getElem_cons_zero, List.getElem_cons_succ, List.setIfInBounds_toArray, List.set_cons_zero, List.set_cons_succ]
                    refine wpAnyH_take (i := 29) (v := .bool false) rfl (by kernel_rfl) (by kernel_rfl) (by kernel_rfl) (fun _ _ _ h => (h : False).elim) (Or.inl ⟨by rfl, ?_⟩) (HS9.out _ B9.out) ?_
                    · intro w hSw
                      obtain ⟨⟨hs0, hs1, hs2⟩, ⟨ht0, ht1, ht2⟩, hv0, hv1, hv2⟩ := hSw
                      go_simp
                    try simp only [Act.put, List.getElem_toArray, List.getElem_cons_zero, List.getElem_cons_succ, List.setIfInBounds_toArray, List.set_cons_zero, List.set_cons_succ]
                    refine ⟨by kernel_rfl, ?_⟩
                    refine NoPanic.normal ?_
                    go_wp2_with fail
                    go_roundw
                    case rel => exact ⟨n + 1, by omega, by go_num, HB5.out.trans (B9.out.mono HB5.out.size)⟩
                    case measure => simp [intOf]; omega
            · have hni : ¬ (n : Int) < 4 := by omega
              go_wp2_with fail
              go_roundw
              case rel => exact ⟨k + 1, by omega, by omega, by go_num, HEX.out⟩
              case measure => simp [intOf]; omega
        · clear hk0 hk9
          go_upto_region 35 with (first
            | (go_at_call 28; refine (label_any _ _).mono ?_; rintro e c1 ⟨rfl, hg⟩; have C1 := Lib.hid hg.below; clear hg)
            | (go_at_call 29; refine (of_any _ _ _ _ _).mono ?_; rintro e c2 ⟨rfl, hg⟩; have C2 := Lib.hid hg.below; clear hg))
          obtain ⟨W3, hW3⟩ : ∃ W, c2.alloc (.cells #[.int .i64 2, .string ⟨#[]⟩, .slice (some ⟨c1.heap.size, 0, none⟩) 1 1] 25) = W := ⟨_, rfl⟩
          obtain ⟨E, hE⟩ : ∃ E, c2.heap.size = E := ⟨_, rfl⟩
          obtain ⟨g0, hg0⟩ : ∃ g, c1.heap.size = g := ⟨_, rfl⟩
          have hzc : (c1.alloc (.cells #[.int .i64 1, .string ⟨#[97]⟩, .slice none 0 0] 25)).heap.size = c1.heap.size + 1 := by simp
          have hcs := C2.out.size
          have hcw := C1.out.size
          have hbxE : W3.heap[E]? = some (.cells #[.int .i64 2, .string ⟨#[]⟩, .slice (some ⟨g0, 0, none⟩) 1 1] 25 (0, 0)) := by rw [← hW3, ← hE, ← hg0]; exact at_push _ _
          have hg0W : W3.heap[g0]? = some (.cells #[.int .i64 1, .string ⟨#[97]⟩, .slice none 0 0] 25 (0, 0)) := by
            rw [← hW3, Below.heap_alloc _ _ _ (by rw [← hg0]; omega), C2.out.block _ (by rw [← hg0]; omega), ← hg0]
            exact at_push _ _
          obtain ⟨B0_, hB0_⟩ : ∃ b, w.heap.size = b := ⟨_, rfl⟩
          have hbW : Below B0_ w W3 := by
            rw [← hB0_, ← hW3]
            have h1 : Below w.heap.size w c1 := HEX.out.trans (C1.out.mono HEX.out.size)
            have h2 : Below w.heap.size w c2 := (h1.alloc h1.size _).trans (C2.out.mono (by rw [hzc]; have := h1.size; omega))
            exact h2.alloc h2.size _
          have hE0 : B0_ ≤ g0 ∧ g0 ≠ E ∧ B0_ ≤ E := by
            rw [← hB0_, ← hg0, ← hE]
            have := HEX.out.size
            omega
          have HOW := Lib.hid (show W3.ownsRow B0_ 25 3 (.slice (some ⟨g0, 0, none⟩) 1 1) 1 (flatP [(labX ⟨#[97]⟩, .slice none 0 0)]) from ⟨rfl, .inr ⟨g0, 1, #[.int .i64 1, .string ⟨#[97]⟩, .slice none 0 0], rfl, hE0.1, hg0W, Nat.le_refl _, by unfold maxLen; omega, rfl, rfl⟩⟩)
          have HST := Lib.hid (And.intro hbxE (And.intro hbW hE0))
          rw [hW3, hE, hg0]
          clear hW3 hE hg0 hzc hcs hcw hbxE hg0W hbW hE0 C1 C2
          go_loopw [13] (fun u13 wr => ∃ (i : Nat) (ps : List (X × Value)) (u : Value), i ≤ 26 ∧ u13 = .int .i64 i ∧ ps.length = i + 1 ∧ wr.heap[E]? = some (.cells #[.int .i64 2, .string ⟨#[]⟩, u] 25 (0, 0)) ∧ wr.ownsRow B0_ 25 3 u (i + 1) (flatP ps) ∧ GK wr B0_ E u ps ∧ u.ownBlock ≠ some E ∧ Below B0_ w wr) (fun u13 _ => 27 - (intOf u13).toNat)
          case atStart => exact ⟨0, [(labX ⟨#[97]⟩, .slice none 0 0)], _, Nat.zero_le _, rfl, rfl, HST.out.1, HOW.out, ⟨fun p hp => by rw [List.mem_singleton] at hp; subst hp; exact XQ.nil _ _, fun p hp => by rw [List.mem_singleton] at hp; subst hp; exact ⟨by rw [sz_lab]; omega, lit_lab _ (by decide)⟩⟩, fun e => HST.out.2.2.2.1 (by simpa [Value.ownBlock] using e), HST.out.2.1⟩
          case round =>
            clear HOW
            obtain ⟨i, ps, u, hi, rfl, hpl, hbx, hown, hgk, hne, hb⟩ := hrel
            have HPL := Lib.hid hpl
            have HR := Lib.hid (And.intro hbx (And.intro hown (And.intro hgk (And.intro hne hb))))
            clear hpl hbx hown hgk hne hb
            by_cases hi26 : i < 26
            · have hii : (i : Int) < 26 := by omega
              obtain ⟨i9, hi9, hz9, hs9, hb9⟩ := info_parts parts25
              obtain ⟨Au, cu, eu⟩ := row_form HR.out.2.1
              have HS := Lib.hid (fun W (h : Below wr.heap.size wr W) => box3 ((h.block _ (heap_lt HR.out.1)).trans HR.out.1))
              have hxr : XR wr.heap.size wr u (ps.map Prod.fst) := own_XR (by rw [HPL.out]; exact HR.out.2.1) HR.out.2.2.1.hk (fun b hq => hq.2.1)
              have HWD := Lib.hid (fun W (h : Below wr.heap.size wr W) => (XV.box (k := 2) (s := ⟨#[]⟩) ((hxr.bel h).mono h.size) : XV W.heap.size W (.agg #[.int .i64 2, .string ⟨#[]⟩, u]) (X.mk 2 ⟨#[]⟩ (ps.map Prod.fst))))
              have HWL := Lib.hid (lit_mk (k := 2) (s := ⟨#[]⟩) (ks := ps.map Prod.fst) (by decide) (fun y hy => by
                obtain ⟨p, hp, rfl⟩ := List.mem_map.1 hy
                exact (HR.out.2.2.1.hs p hp).2))
              clear hxr
              subst eu
              obtain ⟨u, hu⟩ : ∃ u, Value.slice Au (i + 1) cu = u := ⟨_, rfl⟩
              rw [hu] at HR HS HWD
              have HU := Lib.hid hu
              clear hu
              go_upto_region 37 with (fail)
              go_cut [122] from 118 to 130 (fun t122 wy => t122 = .bool false ∧ Below wr.heap.size wr wy)
              case first =>
                clear HPL HR HU HST HEX
                obtain ⟨r0, hr0⟩ : ∃ x, wr.drew = x := ⟨_, rfl⟩
                have B0 := Lib.hid (show Below wr.heap.size wr r0 by rw [← hr0]; exact (Below.refl _ wr).drew)
                refine wp_region_noPanic ?_
                refine wp_region_held_drew (S := fun W => (W.cell? ⟨E, 0, none⟩ = some (.int .i64 2) ∧ W.cell? ⟨E, 1, none⟩ = some (.string ⟨#[]⟩) ∧ W.cell? ⟨E, 2, none⟩ = some u)) (by kernel_rfl) (by rw [hr0]; exact HS.out _ B0.out) (fun hHeld => ?_)
                clear hHeld
                rw [hr0]
                clear hr0
                refine wpAnyH_take (i := 0) (v := .agg #[.int .i64 2, .string ⟨#[]⟩, u]) rfl (by kernel_rfl) (by kernel_rfl) (by kernel_rfl) (fun _ _ _ h => (h : False).elim) (Or.inl ⟨by rfl, ?_⟩) (HS.out _ B0.out) ?_
                · intro w hSw
                  obtain ⟨hs0, hs1, hs2⟩ := hSw
                  go_simp
                try simp only [Act.put, List.getElem_toArray, List.getElem_cons_zero, List.getElem_cons_succ, List.setIfInBounds_toArray, List.set_cons_zero, List.set_cons_succ]
                refine wpAnyH_ready (rs := [1, 2]) (by kernel_rfl) (by simp) ?_
                refine AllReadyH.cons rfl (fun K hK => ?_) (AllReadyH.cons rfl (fun K hK => ?_) AllReadyH.nil)
                · go_simp
                  refine (label_any _ _).mono ?_
                  rintro e r1 ⟨rfl, hg⟩
                  have B1 := Lib.hid (B0.out.trans (hg.below.mono B0.out.size))
                  have SB1 := Lib.hid hg.below
                  clear hg
                  refine hK.out _ _ (HS.out _ B1.out) (fun _ => ?_)
                  clear hK
                  try simp only [Act.put, List.getElem_toArray, List.getElem_cons_zero, List.getElem_cons_succ, List.setIfInBounds_toArray, List.set_cons_zero, List.set_cons_succ]
                  refine wpAnyH_ready (rs := [2]) (by kernel_rfl) (by simp) ?_
                  refine AllReadyH.cons rfl (fun K hK => ?_) AllReadyH.nil
                  go_simp
                  have hd := (B1.out.alloc B1.out.size (.cells #[.string ⟨#[97]⟩, .string ⟨#[97]⟩] 9))
                  refine hK.out _ _ (HS.out _ hd) (fun _ => ?_)
                  clear hK
                  try simp only [Act.put, List.getElem_toArray, List.getElem_cons_zero, List.getElem_cons_succ, List.setIfInBounds_toArray, List.set_cons_zero, List.set_cons_succ]
                  obtain ⟨r2, hr2⟩ : ∃ x, r1.alloc (.cells #[.string ⟨#[97]⟩, .string ⟨#[97]⟩] 9) = x := ⟨_, rfl⟩
                  obtain ⟨gr2, hgr2⟩ : ∃ x, r1.heap.size = x := ⟨_, rfl⟩
                  have Lr2 := Lib.hid (And.intro (show r2.heap[gr2]? = some (.cells #[.string ⟨#[97]⟩, .string ⟨#[97]⟩] 9) by rw [← hr2, ← hgr2]; exact at_push _ _) (And.intro (show Below r1.heap.size r1 r2 by rw [← hr2]; exact (Below.refl _ r1).alloc (Nat.le_refl _) _) (show r1.heap.size = gr2 from hgr2)))
                  have B2 := Lib.hid (show Below wr.heap.size wr r2 by rw [← hr2]; exact hd)
                  rw [hr2, hgr2]
                  clear hd hr2 hgr2
                  refine wpAnyH_ready (rs := [3]) (by kernel_rfl) (by simp) ?_
                  refine AllReadyH.cons rfl (fun K hK => ?_) AllReadyH.nil
                  go_simp
                  refine (does_any (N := r2.heap.size) (M := r2.heap.size) (HWD.out _ B2.out) (XV.lab _ _ _) (Nat.le_refl _) HWL.out (lit_lab _ (by decide)) ((SR_two Lr2.out.1).mono2 (heap_lt Lr2.out.1)) (Nat.le_refl _)).mono ?_
                  rintro e z3 ⟨rfl, hq⟩
                  have B3 := Lib.hid (B2.out.trans (hq.mono B2.out.size))
                  clear hq
                  refine hK.out _ _ (HS.out _ B3.out) (fun _ => ?_)
                  clear hK
                  try simp only [Act.put, List.getElem_toArray, List.getElem_cons_zero, List.getElem_cons_succ, List.setIfInBounds_toArray, List.set_cons_zero, List.set_cons_succ]
                  refine wpAnyH_take (i := 4) (v := .bool false) rfl (by kernel_rfl) (by kernel_rfl) (by kernel_rfl) (fun _ _ _ h => (h : False).elim) (Or.inl ⟨by rfl, ?_⟩) (HS.out _ B3.out) ?_
                  · intro w hSw
                    obtain ⟨hs0, hs1, hs2⟩ := hSw
                    go_simp
                  try simp only [Act.put, List.getElem_toArray, List.getElem_cons_zero, List.getElem_cons_succ, List.setIfInBounds_toArray, List.set_cons_zero, List.set_cons_succ]
                  refine ⟨by kernel_rfl, ?_⟩
                  refine NoPanic.normal ?_
                  go_wp2_with fail
                  go_meet
                  exact ⟨rfl, B3.out⟩
                · go_simp
                  have hd := (B0.out.alloc B0.out.size (.cells #[.string ⟨#[97]⟩, .string ⟨#[97]⟩] 9))
                  refine hK.out _ _ (HS.out _ hd) (fun _ => ?_)
                  clear hK
                  try simp only [Act.put, List.getElem_toArray, List.getElem_cons_zero, List.getElem_cons_succ, List.setIfInBounds_toArray, List.set_cons_zero, List.set_cons_succ]
                  obtain ⟨r1, hr1⟩ : ∃ x, r0.alloc (.cells #[.string ⟨#[97]⟩, .string ⟨#[97]⟩] 9) = x := ⟨_, rfl⟩
                  obtain ⟨gr1, hgr1⟩ : ∃ x, r0.heap.size = x := ⟨_, rfl⟩
                  have Lr1 := Lib.hid (And.intro (show r1.heap[gr1]? = some (.cells #[.string ⟨#[97]⟩, .string ⟨#[97]⟩] 9) by rw [← hr1, ← hgr1]; exact at_push _ _) (And.intro (show Below r0.heap.size r0 r1 by rw [← hr1]; exact (Below.refl _ r0).alloc (Nat.le_refl _) _) (show r0.heap.size = gr1 from hgr1)))
                  have B1 := Lib.hid (show Below wr.heap.size wr r1 by rw [← hr1]; exact hd)
                  rw [hr1, hgr1]
                  clear hd hr1 hgr1
                  refine wpAnyH_ready (rs := [1]) (by kernel_rfl) (by simp) ?_
                  refine AllReadyH.cons rfl (fun K hK => ?_) AllReadyH.nil
                  go_simp
                  refine (label_any _ _).mono ?_
                  rintro e r2 ⟨rfl, hg⟩
                  have B2 := Lib.hid (B1.out.trans (hg.below.mono B1.out.size))
                  have SB2 := Lib.hid hg.below
                  clear hg
                  refine hK.out _ _ (HS.out _ B2.out) (fun _ => ?_)
                  clear hK
                  try simp only [Act.put, List.getElem_toArray, List.getElem_cons_zero, List.getElem_cons_succ, List.setIfInBounds_toArray, List.set_cons_zero, List.set_cons_succ]
                  refine wpAnyH_ready (rs := [3]) (by kernel_rfl) (by simp) ?_
                  refine AllReadyH.cons rfl (fun K hK => ?_) AllReadyH.nil
                  go_simp
                  refine (does_any (N := r2.heap.size) (M := r2.heap.size) (HWD.out _ B2.out) (XV.lab _ _ _) (Nat.le_refl _) HWL.out (lit_lab _ (by decide)) (((SR_two Lr1.out.1).mono2 (heap_lt Lr1.out.1)).bel SB2.out |>.mono2 SB2.out.size) (Nat.le_refl _)).mono ?_
                  rintro e z3 ⟨rfl, hq⟩
                  have B3 := Lib.hid (B2.out.trans (hq.mono B2.out.size))
                  clear hq
                  refine hK.out _ _ (HS.out _ B3.out) (fun _ => ?_)
                  clear hK
                  try simp only [Act.put, List.getElem_toArray, List.getElem_cons_zero, List.getElem_cons_succ, List.setIfInBounds_toArray, List.set_cons_zero, List.set_cons_succ]
                  refine wpAnyH_take (i := 4) (v := .bool false) rfl (by kernel_rfl) (by kernel_rfl) (by kernel_rfl) (fun _ _ _ h => (h : False).elim) (Or.inl ⟨by rfl, ?_⟩) (HS.out _ B3.out) ?_
                  · intro w hSw
                    obtain ⟨hs0, hs1, hs2⟩ := hSw
                    go_simp
                  try simp only [Act.put, List.getElem_toArray, List.getElem_cons_zero, List.getElem_cons_succ, List.setIfInBounds_toArray, List.set_cons_zero, List.set_cons_succ]
                  refine ⟨by kernel_rfl, ?_⟩
                  refine NoPanic.normal ?_
                  go_wp2_with fail
                  go_meet
                  exact ⟨rfl, B3.out⟩
              case rest =>
                obtain ⟨rfl, hb1⟩ := hcut
                obtain ⟨wx, rfl⟩ : ∃ x, x = wc := ⟨_, rfl⟩
                obtain ⟨h1, h2, h3, h4, h5⟩ := HR.out
                have HBE := Lib.hid (heap_keep hb1 h1)
                have hown2 := h2.kept (w' := wx) (row := none) ⟨hb1.os, hb1.tape, hb1.output, hb1.size, fun i hi _ => hb1.block i hi⟩ (by cases hv : Value.ownBlock _ <;> simp)
                have hgk2 := h3.step hb1
                have HB0_ := Lib.hid (show B0_ ≤ wx.heap.size from Nat.le_trans h5.size hb1.size |> fun h => by have := h5.size; have := hb1.size; have := HST.out.2.2.2.2; have := heap_lt HBE.out; omega)
                have ownB := Lib.hid (fun W (h : Below wx.heap.size wx W) => hown2.kept (w' := W) (row := none) ⟨h.os, h.tape, h.output, h.size, fun i hi _ => h.block i hi⟩ (by cases hv : Value.ownBlock _ <;> simp))
                have HFIN := Lib.hid (fun (W w6 : World) (v' : Value) (gA : Nat) (hB : Below wx.heap.size wx W) (hF : W.heap[gA]? = some (.cells #[.int .i64 1, .string ⟨#[97]⟩, .slice none 0 0] 25)) (hZ : wx.heap.size ≤ gA) (ho : w6.ownsRow B0_ 25 3 v' (i + 1 + 1) (flatP ps ++ [.int .i64 6, .string ⟨#[]⟩, .slice (some ⟨gA, 0, none⟩) 1 1])) (hg : W.grownBy w6 u.ownBlock) (hat : v'.ownBlock = u.ownBlock ∨ v'.ownBlock = some W.heap.size) =>
                  (show w6.heap[E]? = some (.cells #[.int .i64 2, .string ⟨#[]⟩, u] 25 (0, 0)) ∧ (w6.setCell ⟨E, 2, none⟩ v').heap[E]? = some (.cells #[.int .i64 2, .string ⟨#[]⟩, v'] 25 (0, 0)) ∧ (∃ ps', ps'.length = i + 1 + 1 ∧ (w6.setCell ⟨E, 2, none⟩ v').ownsRow B0_ 25 3 v' (i + 1 + 1) (flatP ps') ∧ GK (w6.setCell ⟨E, 2, none⟩ v') B0_ E v' ps' ∧ v'.ownBlock ≠ some E ∧ Below B0_ w (w6.setCell ⟨E, 2, none⟩ v')) from by
                    have hEW := heap_keep hB HBE.out
                    have hE6 : w6.heap[E]? = some (.cells #[.int .i64 2, .string ⟨#[]⟩, u] 25 (0, 0)) := (hg.block _ (heap_lt hEW) (fun e => h4 e.symm)).trans hEW
                    have hEv : v'.ownBlock ≠ some E := fun e => by
                      rcases hat with h6 | h6
                      · exact h4 (by rw [← h6]; exact e)
                      · rw [h6] at e; injection e with e; have := heap_lt hEW; omega
                    have hgk3 := (hgk2.step hB).grown hg hat (p := (X.mk 6 ⟨#[]⟩ [labX ⟨#[97]⟩], .slice (some ⟨gA, 0, none⟩) 1 1)) (opt_XQ hF ⟨Nat.le_trans HB0_.out hZ, heap_lt hF, fun e => by have := heap_lt HBE.out; omega, fun e => by have := (hown2.lt gA e).2; omega⟩ 1 (Nat.le_refl _)) ⟨by rw [X.sz_eq]; simp [X.kids, szL_one, sz_lab], lit_mk (by decide) (fun y hy => by rw [List.mem_singleton] at hy; subst hy; exact lit_lab _ (by decide))⟩
                    refine ⟨hE6, box_set2 hE6 _, ps ++ [(X.mk 6 ⟨#[]⟩ [labX ⟨#[97]⟩], .slice (some ⟨gA, 0, none⟩) 1 1)], by rw [List.length_append, HPL.out]; rfl, ?_, hgk3.store 2 v', hEv, ?_⟩
                    · rw [flatP_app, flatP_cons, flatP_nil]
                      exact ownsRow_setCell_other ho hEv _
                    · have hb6 : Below B0_ w W := h5.trans ((hb1.trans (hB.mono hb1.size)).mono (by have := heap_lt h1; have := HST.out.2.2.2.2; omega))
                      exact (hb6.grown hg (by have := heap_lt hEW; have := HST.out.2.2.2.2; omega) (fun k hk => (hown2.lt k hk).1)).setCell (p := ⟨E, 2, none⟩) HST.out.2.2.2.2 _))
                clear h1 h2 h3 h4 h5 hb1 hown2 hgk2 HS HWD HWL
                go_upto_region 39 with (fail)
                clear HR HST HEX
                obtain ⟨r0, hr0⟩ : ∃ x, wx.drew = x := ⟨_, rfl⟩
                have B0 := Lib.hid (show Below wx.heap.size wx r0 by rw [← hr0]; exact (Below.refl _ wx).drew)
                refine wp_region_noPanic ?_
                refine wp_region_held_drew (S := fun _ => True) (by kernel_rfl) trivial (fun hHeld => ?_)
                clear hHeld
                rw [hr0]
                clear hr0
                refine wpAnyH_take (i := 0) (v := .pointer (some ⟨E, 2, none⟩)) rfl (by kernel_rfl) (by kernel_rfl) (by kernel_rfl) (fun _ _ _ h => (h : False).elim) (Or.inl ⟨by rfl, ?_⟩) trivial ?_
                · intro w hSw
                  go_simp
                try simp only [Act.put, List.getElem_toArray, List.getElem_cons_zero, List.getElem_cons_succ, List.setIfInBounds_toArray, List.set_cons_zero, List.set_cons_succ]
                refine wpAnyH_ready (rs := [1, 2]) (by kernel_rfl) (by simp) ?_
                refine AllReadyH.cons rfl (fun K hK => ?_) (AllReadyH.cons rfl (fun K hK => ?_) AllReadyH.nil)
                · obtain ⟨q0, q1, q2⟩ := box3 (heap_keep (B0.out) HBE.out)
                  go_simp
                  clear q0 q1 q2
                  refine hK.out _ _ trivial (fun _ => ?_)
                  clear hK
                  try simp only [Act.put, List.getElem_toArray, List.getElem_cons_zero, List.getElem_cons_succ, List.setIfInBounds_toArray, List.set_cons_zero, List.set_cons_succ]
                  obtain ⟨r1, hr1⟩ : ∃ x, r0 = x := ⟨_, rfl⟩
                  have B1 := Lib.hid (show Below wx.heap.size wx r1 by rw [← hr1]; exact B0.out)
                  have SB1 := Lib.hid (show Below r0.heap.size r0 r1 by rw [← hr1]; exact Below.refl _ _)
                  rw [hr1]
                  clear hr1
                  refine wpAnyH_ready (rs := [2]) (by kernel_rfl) (by simp) ?_
                  refine AllReadyH.cons rfl (fun K hK => ?_) AllReadyH.nil
                  go_simp
                  refine (label_any _ _).mono ?_
                  rintro e r2 ⟨rfl, hg⟩
                  have B2 := Lib.hid (B1.out.trans (hg.below.mono B1.out.size))
                  have SB2 := Lib.hid hg.below
                  clear hg
                  refine hK.out _ _ trivial (fun _ => ?_)
                  clear hK
                  try simp only [Act.put, List.getElem_toArray, List.getElem_cons_zero, List.getElem_cons_succ, List.setIfInBounds_toArray, List.set_cons_zero, List.set_cons_succ]
                  refine wpAnyH_ready (rs := [3]) (by kernel_rfl) (by simp) ?_
                  refine AllReadyH.cons rfl (fun K hK => ?_) AllReadyH.nil
                  go_simp
                  refine hK.out _ _ trivial (fun _ => ?_)
                  clear hK
                  try simp only [Act.put, List.getElem_toArray, List.getElem_cons_zero, List.getElem_cons_succ, List.setIfInBounds_toArray, List.set_cons_zero, List.set_cons_succ]
                  obtain ⟨r3, hr3⟩ : ∃ x, r2.alloc (.cells #[.int .i64 1, .string ⟨#[97]⟩, .slice none 0 0] 25) = x := ⟨_, rfl⟩
                  obtain ⟨gA, hgA⟩ : ∃ x, r2.heap.size = x := ⟨_, rfl⟩
                  have FgA3 := Lib.hid (show r3.heap[gA]? = some (.cells #[.int .i64 1, .string ⟨#[97]⟩, .slice none 0 0] 25) by rw [← hr3, ← hgA]; exact at_push _ _)
                  have SB3 := Lib.hid (show Below r2.heap.size r2 r3 by rw [← hr3]; exact (Below.refl _ r2).alloc (Nat.le_refl _) _)
                  have B3 := Lib.hid (B2.out.trans (SB3.out.mono B2.out.size))
                  have ZgA := Lib.hid (show wx.heap.size ≤ gA by rw [← hgA]; exact B2.out.size)
                  rw [hr3, hgA]
                  clear hr3 hgA
                  refine wpAnyH_ready (rs := [4]) (by kernel_rfl) (by simp) ?_
                  refine AllReadyH.cons rfl (fun K hK => ?_) AllReadyH.nil
                  go_simp
                  refine (of_any _ _ _ _ _).mono ?_
                  rintro e r4 ⟨rfl, hg⟩
                  have B4 := Lib.hid (B3.out.trans (hg.below.mono B3.out.size))
                  have SB4 := Lib.hid hg.below
                  clear hg
                  refine hK.out _ _ trivial (fun _ => ?_)
                  clear hK
                  try simp only [Act.put, List.getElem_toArray, List.getElem_cons_zero, List.getElem_cons_succ, List.setIfInBounds_toArray, List.set_cons_zero, List.set_cons_succ]
                  have FgA4 := Lib.hid (heap_keep SB4.out FgA3.out)
                  refine wpAnyH_ready (rs := [5]) (by kernel_rfl) (by simp) ?_
                  refine AllReadyH.cons rfl (fun K hK => ?_) AllReadyH.nil
                  go_simp
                  refine hK.out _ _ trivial (fun _ => ?_)
                  clear hK
                  try simp only [Act.put, List.getElem_toArray, List.getElem_cons_zero, List.getElem_cons_succ, List.setIfInBounds_toArray, List.set_cons_zero, List.set_cons_succ]
                  obtain ⟨r5, hr5⟩ : ∃ x, r4.alloc (.cells #[.int .i64 6, .string ⟨#[]⟩, .slice (some ⟨gA, 0, none⟩) 1 1] 25) = x := ⟨_, rfl⟩
                  obtain ⟨gB, hgB⟩ : ∃ x, r4.heap.size = x := ⟨_, rfl⟩
                  have FgB5 := Lib.hid (show r5.heap[gB]? = some (.cells #[.int .i64 6, .string ⟨#[]⟩, .slice (some ⟨gA, 0, none⟩) 1 1] 25) by rw [← hr5, ← hgB]; exact at_push _ _)
                  have SB5 := Lib.hid (show Below r4.heap.size r4 r5 by rw [← hr5]; exact (Below.refl _ r4).alloc (Nat.le_refl _) _)
                  have B5 := Lib.hid (B4.out.trans (SB5.out.mono B4.out.size))
                  have ZgB := Lib.hid (show wx.heap.size ≤ gB by rw [← hgB]; exact B4.out.size)
                  rw [hr5, hgB]
                  clear hr5 hgB
                  have FgA5 := Lib.hid (heap_keep SB5.out FgA4.out)
                  refine wpAnyH_ready (rs := [6]) (by kernel_rfl) (by simp) ?_
                  refine AllReadyH.cons rfl (fun K hK => ?_) AllReadyH.nil
                  have hown := ownB.out _ B5.out
                  refine step_append_own rfl (.tmp 124) (.tmp 128) rfl (base := B0_) Try.underlying23 hi9 hz9 hs9 hb9 rfl (by decide) (v := u) (by simp [Act.eval]) hown (ad := ⟨gB, 0, none⟩) (m := 1) (c := 1) (news := [.int .i64 6, .string ⟨#[]⟩, .slice (some ⟨gA, 0, none⟩) 1 1]) (by simp [Act.eval]) rfl (row_cells FgB5.out) (by simp [Value.oneCell']) (by unfold maxLen; omega) (by omega) (Nat.le_trans HB0_.out B5.out.size) ?_
                  intro v' w6 hown' hgrow' hat'
                  obtain ⟨A6, c6, e6⟩ := row_form hown'
                  subst e6
                  have FIN := Lib.hid (HFIN.out _ _ _ _ B5.out FgA5.out ZgA.out hown' hgrow' hat')
                  clear hown hown' hgrow' hat'
                  refine hK.out _ _ trivial (fun _ => ?_)
                  clear hK
                  try simp only [Act.put, List.getElem_toArray, List.getElem_cons_zero, List.getElem_cons_succ, List.setIfInBounds_toArray, List.set_cons_zero, List.set_cons_succ]
                  refine wpAnyH_take (i := 7) (v := .pointer (some ⟨E, 2, none⟩)) rfl (by kernel_rfl) (by kernel_rfl) (by kernel_rfl) (fun _ _ _ h => (h : False).elim) (Or.inl ⟨by rfl, ?_⟩) trivial ?_
                  · intro w hSw
                    go_simp
                  try simp only [Act.put, List.getElem_toArray, List.getElem_cons_zero, List.getElem_cons_succ, List.setIfInBounds_toArray, List.set_cons_zero, List.set_cons_succ]
                  refine wpAnyH_ready (rs := [8]) (by kernel_rfl) (by simp) ?_
                  refine AllReadyH.cons rfl (fun K hK => ?_) AllReadyH.nil
                  obtain ⟨f1, f2, f3⟩ := FIN.out
                  obtain ⟨q0, q1, q2⟩ := box3 f1
                  have q3 := box_frozen f1 2
                  go_simp
                  refine hK.out _ _ trivial (fun _ => ?_)
                  clear hK q0 q1 q2 q3 f1 f2 f3
                  try simp only [Act.put, List.getElem_toArray, List.getElem_cons_zero, List.getElem_cons_succ, List.setIfInBounds_toArray, List.set_cons_zero, List.set_cons_succ]
                  refine ⟨by kernel_rfl, ?_⟩
                  refine NoPanic.normal ?_
                  go_wp2_with fail
                  go_roundw
                  case rel =>
                    obtain ⟨-, f2, ps', g1, g2, g3, g4, g5⟩ := FIN.out
                    exact ⟨i + 1, ps', _, by omega, by go_num, g1, f2, g2, g3, g4, g5⟩
                  case measure => simp [intOf]; omega
                · go_simp
                  refine (label_any _ _).mono ?_
                  rintro e r1 ⟨rfl, hg⟩
                  have B1 := Lib.hid (B0.out.trans (hg.below.mono B0.out.size))
                  have SB1 := Lib.hid hg.below
                  clear hg
                  refine hK.out _ _ trivial (fun _ => ?_)
                  clear hK
                  try simp only [Act.put, List.getElem_toArray, List.getElem_cons_zero, List.getElem_cons_succ, List.setIfInBounds_toArray, List.set_cons_zero, List.set_cons_succ]
                  refine wpAnyH_ready (rs := [1, 3]) (by kernel_rfl) (by simp) ?_
                  refine AllReadyH.cons rfl (fun K hK => ?_) (AllReadyH.cons rfl (fun K hK => ?_) AllReadyH.nil)
                  · obtain ⟨q0, q1, q2⟩ := box3 (heap_keep (B1.out) HBE.out)
                    go_simp
                    clear q0 q1 q2
                    refine hK.out _ _ trivial (fun _ => ?_)
                    clear hK
                    try simp only [Act.put, List.getElem_toArray, List.getElem_cons_zero, List.getElem_cons_succ, List.setIfInBounds_toArray, List.set_cons_zero, List.set_cons_succ]
                    obtain ⟨r2, hr2⟩ : ∃ x, r1 = x := ⟨_, rfl⟩
                    have B2 := Lib.hid (show Below wx.heap.size wx r2 by rw [← hr2]; exact B1.out)
                    have SB2 := Lib.hid (show Below r1.heap.size r1 r2 by rw [← hr2]; exact Below.refl _ _)
                    rw [hr2]
                    clear hr2
                    refine wpAnyH_ready (rs := [3]) (by kernel_rfl) (by simp) ?_
                    refine AllReadyH.cons rfl (fun K hK => ?_) AllReadyH.nil
                    go_simp
                    refine hK.out _ _ trivial (fun _ => ?_)
                    clear hK
                    try simp only [Act.put, List.getElem_toArray, List.getElem_cons_zero, List.getElem_cons_succ, List.setIfInBounds_toArray, List.set_cons_zero, List.set_cons_succ]
                    obtain ⟨r3, hr3⟩ : ∃ x, r2.alloc (.cells #[.int .i64 1, .string ⟨#[97]⟩, .slice none 0 0] 25) = x := ⟨_, rfl⟩
                    obtain ⟨gA, hgA⟩ : ∃ x, r2.heap.size = x := ⟨_, rfl⟩
                    have FgA3 := Lib.hid (show r3.heap[gA]? = some (.cells #[.int .i64 1, .string ⟨#[97]⟩, .slice none 0 0] 25) by rw [← hr3, ← hgA]; exact at_push _ _)
                    have SB3 := Lib.hid (show Below r2.heap.size r2 r3 by rw [← hr3]; exact (Below.refl _ r2).alloc (Nat.le_refl _) _)
                    have B3 := Lib.hid (B2.out.trans (SB3.out.mono B2.out.size))
                    have ZgA := Lib.hid (show wx.heap.size ≤ gA by rw [← hgA]; exact B2.out.size)
                    rw [hr3, hgA]
                    clear hr3 hgA
                    refine wpAnyH_ready (rs := [4]) (by kernel_rfl) (by simp) ?_
                    refine AllReadyH.cons rfl (fun K hK => ?_) AllReadyH.nil
                    go_simp
                    refine (of_any _ _ _ _ _).mono ?_
                    rintro e r4 ⟨rfl, hg⟩
                    have B4 := Lib.hid (B3.out.trans (hg.below.mono B3.out.size))
                    have SB4 := Lib.hid hg.below
                    clear hg
                    refine hK.out _ _ trivial (fun _ => ?_)
                    clear hK
                    try simp only [Act.put, List.getElem_toArray, List.getElem_cons_zero, List.getElem_cons_succ, List.setIfInBounds_toArray, List.set_cons_zero, List.set_cons_succ]
                    have FgA4 := Lib.hid (heap_keep SB4.out FgA3.out)
                    refine wpAnyH_ready (rs := [5]) (by kernel_rfl) (by simp) ?_
                    refine AllReadyH.cons rfl (fun K hK => ?_) AllReadyH.nil
                    go_simp
                    refine hK.out _ _ trivial (fun _ => ?_)
                    clear hK
                    try simp only [Act.put, List.getElem_toArray, List.getElem_cons_zero, List.getElem_cons_succ, List.setIfInBounds_toArray, List.set_cons_zero, List.set_cons_succ]
                    obtain ⟨r5, hr5⟩ : ∃ x, r4.alloc (.cells #[.int .i64 6, .string ⟨#[]⟩, .slice (some ⟨gA, 0, none⟩) 1 1] 25) = x := ⟨_, rfl⟩
                    obtain ⟨gB, hgB⟩ : ∃ x, r4.heap.size = x := ⟨_, rfl⟩
                    have FgB5 := Lib.hid (show r5.heap[gB]? = some (.cells #[.int .i64 6, .string ⟨#[]⟩, .slice (some ⟨gA, 0, none⟩) 1 1] 25) by rw [← hr5, ← hgB]; exact at_push _ _)
                    have SB5 := Lib.hid (show Below r4.heap.size r4 r5 by rw [← hr5]; exact (Below.refl _ r4).alloc (Nat.le_refl _) _)
                    have B5 := Lib.hid (B4.out.trans (SB5.out.mono B4.out.size))
                    have ZgB := Lib.hid (show wx.heap.size ≤ gB by rw [← hgB]; exact B4.out.size)
                    rw [hr5, hgB]
                    clear hr5 hgB
                    have FgA5 := Lib.hid (heap_keep SB5.out FgA4.out)
                    refine wpAnyH_ready (rs := [6]) (by kernel_rfl) (by simp) ?_
                    refine AllReadyH.cons rfl (fun K hK => ?_) AllReadyH.nil
                    have hown := ownB.out _ B5.out
                    refine step_append_own rfl (.tmp 124) (.tmp 128) rfl (base := B0_) Try.underlying23 hi9 hz9 hs9 hb9 rfl (by decide) (v := u) (by simp [Act.eval]) hown (ad := ⟨gB, 0, none⟩) (m := 1) (c := 1) (news := [.int .i64 6, .string ⟨#[]⟩, .slice (some ⟨gA, 0, none⟩) 1 1]) (by simp [Act.eval]) rfl (row_cells FgB5.out) (by simp [Value.oneCell']) (by unfold maxLen; omega) (by omega) (Nat.le_trans HB0_.out B5.out.size) ?_
                    intro v' w6 hown' hgrow' hat'
                    obtain ⟨A6, c6, e6⟩ := row_form hown'
                    subst e6
                    have FIN := Lib.hid (HFIN.out _ _ _ _ B5.out FgA5.out ZgA.out hown' hgrow' hat')
                    clear hown hown' hgrow' hat'
                    refine hK.out _ _ trivial (fun _ => ?_)
                    clear hK
                    try simp only [Act.put, List.getElem_toArray, List.getElem_cons_zero, List.getElem_cons_succ, List.setIfInBounds_toArray, List.set_cons_zero, List.set_cons_succ]
                    refine wpAnyH_take (i := 7) (v := .pointer (some ⟨E, 2, none⟩)) rfl (by kernel_rfl) (by kernel_rfl) (by kernel_rfl) (fun _ _ _ h => (h : False).elim) (Or.inl ⟨by rfl, ?_⟩) trivial ?_
                    · intro w hSw
                      go_simp
                    try simp only [Act.put, List.getElem_toArray, List.getElem_cons_zero, List.getElem_cons_succ, List.setIfInBounds_toArray, List.set_cons_zero, List.set_cons_succ]
                    refine wpAnyH_ready (rs := [8]) (by kernel_rfl) (by simp) ?_
                    refine AllReadyH.cons rfl (fun K hK => ?_) AllReadyH.nil
                    obtain ⟨f1, f2, f3⟩ := FIN.out
                    obtain ⟨q0, q1, q2⟩ := box3 f1
                    have q3 := box_frozen f1 2
                    go_simp
                    refine hK.out _ _ trivial (fun _ => ?_)
                    clear hK q0 q1 q2 q3 f1 f2 f3
                    try simp only [Act.put, List.getElem_toArray, List.getElem_cons_zero, List.getElem_cons_succ, List.setIfInBounds_toArray, List.set_cons_zero, List.set_cons_succ]
                    refine ⟨by kernel_rfl, ?_⟩
                    refine NoPanic.normal ?_
                    go_wp2_with fail
                    go_roundw
                    case rel =>
                      obtain ⟨-, f2, ps', g1, g2, g3, g4, g5⟩ := FIN.out
                      exact ⟨i + 1, ps', _, by omega, by go_num, g1, f2, g2, g3, g4, g5⟩
                    case measure => simp [intOf]; omega
                  · go_simp
                    refine hK.out _ _ trivial (fun _ => ?_)
                    clear hK
                    try simp only [Act.put, List.getElem_toArray, List.getElem_cons_zero, List.getElem_cons_succ, List.setIfInBounds_toArray, List.set_cons_zero, List.set_cons_succ]
                    obtain ⟨r2, hr2⟩ : ∃ x, r1.alloc (.cells #[.int .i64 1, .string ⟨#[97]⟩, .slice none 0 0] 25) = x := ⟨_, rfl⟩
                    obtain ⟨gA, hgA⟩ : ∃ x, r1.heap.size = x := ⟨_, rfl⟩
                    have FgA2 := Lib.hid (show r2.heap[gA]? = some (.cells #[.int .i64 1, .string ⟨#[97]⟩, .slice none 0 0] 25) by rw [← hr2, ← hgA]; exact at_push _ _)
                    have SB2 := Lib.hid (show Below r1.heap.size r1 r2 by rw [← hr2]; exact (Below.refl _ r1).alloc (Nat.le_refl _) _)
                    have B2 := Lib.hid (B1.out.trans (SB2.out.mono B1.out.size))
                    have ZgA := Lib.hid (show wx.heap.size ≤ gA by rw [← hgA]; exact B1.out.size)
                    rw [hr2, hgA]
                    clear hr2 hgA
                    refine wpAnyH_ready (rs := [1, 4]) (by kernel_rfl) (by simp) ?_
                    refine AllReadyH.cons rfl (fun K hK => ?_) (AllReadyH.cons rfl (fun K hK => ?_) AllReadyH.nil)
                    · obtain ⟨q0, q1, q2⟩ := box3 (heap_keep (B2.out) HBE.out)
                      go_simp
                      clear q0 q1 q2
                      refine hK.out _ _ trivial (fun _ => ?_)
                      clear hK
                      try simp only [Act.put, List.getElem_toArray, List.getElem_cons_zero, List.getElem_cons_succ, List.setIfInBounds_toArray, List.set_cons_zero, List.set_cons_succ]
                      obtain ⟨r3, hr3⟩ : ∃ x, r2 = x := ⟨_, rfl⟩
                      have B3 := Lib.hid (show Below wx.heap.size wx r3 by rw [← hr3]; exact B2.out)
                      have SB3 := Lib.hid (show Below r2.heap.size r2 r3 by rw [← hr3]; exact Below.refl _ _)
                      rw [hr3]
                      clear hr3
                      have FgA3 := Lib.hid (heap_keep SB3.out FgA2.out)
                      refine wpAnyH_ready (rs := [4]) (by kernel_rfl) (by simp) ?_
                      refine AllReadyH.cons rfl (fun K hK => ?_) AllReadyH.nil
                      go_simp
                      refine (of_any _ _ _ _ _).mono ?_
                      rintro e r4 ⟨rfl, hg⟩
                      have B4 := Lib.hid (B3.out.trans (hg.below.mono B3.out.size))
                      have SB4 := Lib.hid hg.below
                      clear hg
                      refine hK.out _ _ trivial (fun _ => ?_)
                      clear hK
                      try simp only [Act.put, List.getElem_toArray, List.getElem_cons_zero, List.getElem_cons_succ, List.setIfInBounds_toArray, List.set_cons_zero, List.set_cons_succ]
                      have FgA4 := Lib.hid (heap_keep SB4.out FgA3.out)
                      refine wpAnyH_ready (rs := [5]) (by kernel_rfl) (by simp) ?_
                      refine AllReadyH.cons rfl (fun K hK => ?_) AllReadyH.nil
                      go_simp
                      refine hK.out _ _ trivial (fun _ => ?_)
                      clear hK
                      try simp only [Act.put, List.getElem_toArray, List.getElem_cons_zero, List.getElem_cons_succ, List.setIfInBounds_toArray, List.set_cons_zero, List.set_cons_succ]
                      obtain ⟨r5, hr5⟩ : ∃ x, r4.alloc (.cells #[.int .i64 6, .string ⟨#[]⟩, .slice (some ⟨gA, 0, none⟩) 1 1] 25) = x := ⟨_, rfl⟩
                      obtain ⟨gB, hgB⟩ : ∃ x, r4.heap.size = x := ⟨_, rfl⟩
                      have FgB5 := Lib.hid (show r5.heap[gB]? = some (.cells #[.int .i64 6, .string ⟨#[]⟩, .slice (some ⟨gA, 0, none⟩) 1 1] 25) by rw [← hr5, ← hgB]; exact at_push _ _)
                      have SB5 := Lib.hid (show Below r4.heap.size r4 r5 by rw [← hr5]; exact (Below.refl _ r4).alloc (Nat.le_refl _) _)
                      have B5 := Lib.hid (B4.out.trans (SB5.out.mono B4.out.size))
                      have ZgB := Lib.hid (show wx.heap.size ≤ gB by rw [← hgB]; exact B4.out.size)
                      rw [hr5, hgB]
                      clear hr5 hgB
                      have FgA5 := Lib.hid (heap_keep SB5.out FgA4.out)
                      refine wpAnyH_ready (rs := [6]) (by kernel_rfl) (by simp) ?_
                      refine AllReadyH.cons rfl (fun K hK => ?_) AllReadyH.nil
                      have hown := ownB.out _ B5.out
                      refine step_append_own rfl (.tmp 124) (.tmp 128) rfl (base := B0_) Try.underlying23 hi9 hz9 hs9 hb9 rfl (by decide) (v := u) (by simp [Act.eval]) hown (ad := ⟨gB, 0, none⟩) (m := 1) (c := 1) (news := [.int .i64 6, .string ⟨#[]⟩, .slice (some ⟨gA, 0, none⟩) 1 1]) (by simp [Act.eval]) rfl (row_cells FgB5.out) (by simp [Value.oneCell']) (by unfold maxLen; omega) (by omega) (Nat.le_trans HB0_.out B5.out.size) ?_
                      intro v' w6 hown' hgrow' hat'
                      obtain ⟨A6, c6, e6⟩ := row_form hown'
                      subst e6
                      have FIN := Lib.hid (HFIN.out _ _ _ _ B5.out FgA5.out ZgA.out hown' hgrow' hat')
                      clear hown hown' hgrow' hat'
                      refine hK.out _ _ trivial (fun _ => ?_)
                      clear hK
                      try simp only [Act.put, List.getElem_toArray, List.getElem_cons_zero, List.getElem_cons_succ, List.setIfInBounds_toArray, List.set_cons_zero, List.set_cons_succ]
                      refine wpAnyH_take (i := 7) (v := .pointer (some ⟨E, 2, none⟩)) rfl (by kernel_rfl) (by kernel_rfl) (by kernel_rfl) (fun _ _ _ h => (h : False).elim) (Or.inl ⟨by rfl, ?_⟩) trivial ?_
                      · intro w hSw
                        go_simp
                      try simp only [Act.put, List.getElem_toArray, List.getElem_cons_zero, List.getElem_cons_succ, List.setIfInBounds_toArray, List.set_cons_zero, List.set_cons_succ]
                      refine wpAnyH_ready (rs := [8]) (by kernel_rfl) (by simp) ?_
                      refine AllReadyH.cons rfl (fun K hK => ?_) AllReadyH.nil
                      obtain ⟨f1, f2, f3⟩ := FIN.out
                      obtain ⟨q0, q1, q2⟩ := box3 f1
                      have q3 := box_frozen f1 2
                      go_simp
                      refine hK.out _ _ trivial (fun _ => ?_)
                      clear hK q0 q1 q2 q3 f1 f2 f3
                      try simp only [Act.put, List.getElem_toArray, List.getElem_cons_zero, List.getElem_cons_succ, List.setIfInBounds_toArray, List.set_cons_zero, List.set_cons_succ]
                      refine ⟨by kernel_rfl, ?_⟩
                      refine NoPanic.normal ?_
                      go_wp2_with fail
                      go_roundw
                      case rel =>
                        obtain ⟨-, f2, ps', g1, g2, g3, g4, g5⟩ := FIN.out
                        exact ⟨i + 1, ps', _, by omega, by go_num, g1, f2, g2, g3, g4, g5⟩
                      case measure => simp [intOf]; omega
                    · go_simp
                      refine (of_any _ _ _ _ _).mono ?_
                      rintro e r3 ⟨rfl, hg⟩
                      have B3 := Lib.hid (B2.out.trans (hg.below.mono B2.out.size))
                      have SB3 := Lib.hid hg.below
                      clear hg
                      refine hK.out _ _ trivial (fun _ => ?_)
                      clear hK
                      try simp only [Act.put, List.getElem_toArray, List.getElem_cons_zero, List.getElem_cons_succ, List.setIfInBounds_toArray, List.set_cons_zero, List.set_cons_succ]
                      have FgA3 := Lib.hid (heap_keep SB3.out FgA2.out)
                      refine wpAnyH_ready (rs := [1, 5]) (by kernel_rfl) (by simp) ?_
                      refine AllReadyH.cons rfl (fun K hK => ?_) (AllReadyH.cons rfl (fun K hK => ?_) AllReadyH.nil)
                      · obtain ⟨q0, q1, q2⟩ := box3 (heap_keep (B3.out) HBE.out)
                        go_simp
                        clear q0 q1 q2
                        refine hK.out _ _ trivial (fun _ => ?_)
                        clear hK
                        try simp only [Act.put, List.getElem_toArray, List.getElem_cons_zero, List.getElem_cons_succ, List.setIfInBounds_toArray, List.set_cons_zero, List.set_cons_succ]
                        obtain ⟨r4, hr4⟩ : ∃ x, r3 = x := ⟨_, rfl⟩
                        have B4 := Lib.hid (show Below wx.heap.size wx r4 by rw [← hr4]; exact B3.out)
                        have SB4 := Lib.hid (show Below r3.heap.size r3 r4 by rw [← hr4]; exact Below.refl _ _)
                        rw [hr4]
                        clear hr4
                        have FgA4 := Lib.hid (heap_keep SB4.out FgA3.out)
                        refine wpAnyH_ready (rs := [5]) (by kernel_rfl) (by simp) ?_
                        refine AllReadyH.cons rfl (fun K hK => ?_) AllReadyH.nil
                        go_simp
                        refine hK.out _ _ trivial (fun _ => ?_)
                        clear hK
                        try simp only [Act.put, List.getElem_toArray, List.getElem_cons_zero, List.getElem_cons_succ, List.setIfInBounds_toArray, List.set_cons_zero, List.set_cons_succ]
                        obtain ⟨r5, hr5⟩ : ∃ x, r4.alloc (.cells #[.int .i64 6, .string ⟨#[]⟩, .slice (some ⟨gA, 0, none⟩) 1 1] 25) = x := ⟨_, rfl⟩
                        obtain ⟨gB, hgB⟩ : ∃ x, r4.heap.size = x := ⟨_, rfl⟩
                        have FgB5 := Lib.hid (show r5.heap[gB]? = some (.cells #[.int .i64 6, .string ⟨#[]⟩, .slice (some ⟨gA, 0, none⟩) 1 1] 25) by rw [← hr5, ← hgB]; exact at_push _ _)
                        have SB5 := Lib.hid (show Below r4.heap.size r4 r5 by rw [← hr5]; exact (Below.refl _ r4).alloc (Nat.le_refl _) _)
                        have B5 := Lib.hid (B4.out.trans (SB5.out.mono B4.out.size))
                        have ZgB := Lib.hid (show wx.heap.size ≤ gB by rw [← hgB]; exact B4.out.size)
                        rw [hr5, hgB]
                        clear hr5 hgB
                        have FgA5 := Lib.hid (heap_keep SB5.out FgA4.out)
                        refine wpAnyH_ready (rs := [6]) (by kernel_rfl) (by simp) ?_
                        refine AllReadyH.cons rfl (fun K hK => ?_) AllReadyH.nil
                        have hown := ownB.out _ B5.out
                        refine step_append_own rfl (.tmp 124) (.tmp 128) rfl (base := B0_) Try.underlying23 hi9 hz9 hs9 hb9 rfl (by decide) (v := u) (by simp [Act.eval]) hown (ad := ⟨gB, 0, none⟩) (m := 1) (c := 1) (news := [.int .i64 6, .string ⟨#[]⟩, .slice (some ⟨gA, 0, none⟩) 1 1]) (by simp [Act.eval]) rfl (row_cells FgB5.out) (by simp [Value.oneCell']) (by unfold maxLen; omega) (by omega) (Nat.le_trans HB0_.out B5.out.size) ?_
                        intro v' w6 hown' hgrow' hat'
                        obtain ⟨A6, c6, e6⟩ := row_form hown'
                        subst e6
                        have FIN := Lib.hid (HFIN.out _ _ _ _ B5.out FgA5.out ZgA.out hown' hgrow' hat')
                        clear hown hown' hgrow' hat'
                        refine hK.out _ _ trivial (fun _ => ?_)
                        clear hK
                        try simp only [Act.put, List.getElem_toArray, List.getElem_cons_zero, List.getElem_cons_succ, List.setIfInBounds_toArray, List.set_cons_zero, List.set_cons_succ]
                        refine wpAnyH_take (i := 7) (v := .pointer (some ⟨E, 2, none⟩)) rfl (by kernel_rfl) (by kernel_rfl) (by kernel_rfl) (fun _ _ _ h => (h : False).elim) (Or.inl ⟨by rfl, ?_⟩) trivial ?_
                        · intro w hSw
                          go_simp
                        try simp only [Act.put, List.getElem_toArray, List.getElem_cons_zero, List.getElem_cons_succ, List.setIfInBounds_toArray, List.set_cons_zero, List.set_cons_succ]
                        refine wpAnyH_ready (rs := [8]) (by kernel_rfl) (by simp) ?_
                        refine AllReadyH.cons rfl (fun K hK => ?_) AllReadyH.nil
                        obtain ⟨f1, f2, f3⟩ := FIN.out
                        obtain ⟨q0, q1, q2⟩ := box3 f1
                        have q3 := box_frozen f1 2
                        go_simp
                        refine hK.out _ _ trivial (fun _ => ?_)
                        clear hK q0 q1 q2 q3 f1 f2 f3
                        try simp only [Act.put, List.getElem_toArray, List.getElem_cons_zero, List.getElem_cons_succ, List.setIfInBounds_toArray, List.set_cons_zero, List.set_cons_succ]
                        refine ⟨by kernel_rfl, ?_⟩
                        refine NoPanic.normal ?_
                        go_wp2_with fail
                        go_roundw
                        case rel =>
                          obtain ⟨-, f2, ps', g1, g2, g3, g4, g5⟩ := FIN.out
                          exact ⟨i + 1, ps', _, by omega, by go_num, g1, f2, g2, g3, g4, g5⟩
                        case measure => simp [intOf]; omega
                      · go_simp
                        refine hK.out _ _ trivial (fun _ => ?_)
                        clear hK
                        try simp only [Act.put, List.getElem_toArray, List.getElem_cons_zero, List.getElem_cons_succ, List.setIfInBounds_toArray, List.set_cons_zero, List.set_cons_succ]
                        obtain ⟨r4, hr4⟩ : ∃ x, r3.alloc (.cells #[.int .i64 6, .string ⟨#[]⟩, .slice (some ⟨gA, 0, none⟩) 1 1] 25) = x := ⟨_, rfl⟩
                        obtain ⟨gB, hgB⟩ : ∃ x, r3.heap.size = x := ⟨_, rfl⟩
                        have FgB4 := Lib.hid (show r4.heap[gB]? = some (.cells #[.int .i64 6, .string ⟨#[]⟩, .slice (some ⟨gA, 0, none⟩) 1 1] 25) by rw [← hr4, ← hgB]; exact at_push _ _)
                        have SB4 := Lib.hid (show Below r3.heap.size r3 r4 by rw [← hr4]; exact (Below.refl _ r3).alloc (Nat.le_refl _) _)
                        have B4 := Lib.hid (B3.out.trans (SB4.out.mono B3.out.size))
                        have ZgB := Lib.hid (show wx.heap.size ≤ gB by rw [← hgB]; exact B3.out.size)
                        rw [hr4, hgB]
                        clear hr4 hgB
                        have FgA4 := Lib.hid (heap_keep SB4.out FgA3.out)
                        refine wpAnyH_ready (rs := [1]) (by kernel_rfl) (by simp) ?_
                        refine AllReadyH.cons rfl (fun K hK => ?_) AllReadyH.nil
                        obtain ⟨q0, q1, q2⟩ := box3 (heap_keep (B4.out) HBE.out)
                        go_simp
                        clear q0 q1 q2
                        refine hK.out _ _ trivial (fun _ => ?_)
                        clear hK
                        try simp only [Act.put, List.getElem_toArray, List.getElem_cons_zero, List.getElem_cons_succ, List.setIfInBounds_toArray, List.set_cons_zero, List.set_cons_succ]
                        obtain ⟨r5, hr5⟩ : ∃ x, r4 = x := ⟨_, rfl⟩
                        have B5 := Lib.hid (show Below wx.heap.size wx r5 by rw [← hr5]; exact B4.out)
                        have SB5 := Lib.hid (show Below r4.heap.size r4 r5 by rw [← hr5]; exact Below.refl _ _)
                        rw [hr5]
                        clear hr5
                        have FgA5 := Lib.hid (heap_keep SB5.out FgA4.out)
                        have FgB5 := Lib.hid (heap_keep SB5.out FgB4.out)
                        refine wpAnyH_ready (rs := [6]) (by kernel_rfl) (by simp) ?_
                        refine AllReadyH.cons rfl (fun K hK => ?_) AllReadyH.nil
                        have hown := ownB.out _ B5.out
                        refine step_append_own rfl (.tmp 124) (.tmp 128) rfl (base := B0_) Try.underlying23 hi9 hz9 hs9 hb9 rfl (by decide) (v := u) (by simp [Act.eval]) hown (ad := ⟨gB, 0, none⟩) (m := 1) (c := 1) (news := [.int .i64 6, .string ⟨#[]⟩, .slice (some ⟨gA, 0, none⟩) 1 1]) (by simp [Act.eval]) rfl (row_cells FgB5.out) (by simp [Value.oneCell']) (by unfold maxLen; omega) (by omega) (Nat.le_trans HB0_.out B5.out.size) ?_
                        intro v' w6 hown' hgrow' hat'
                        obtain ⟨A6, c6, e6⟩ := row_form hown'
                        subst e6
                        have FIN := Lib.hid (HFIN.out _ _ _ _ B5.out FgA5.out ZgA.out hown' hgrow' hat')
                        clear hown hown' hgrow' hat'
                        refine hK.out _ _ trivial (fun _ => ?_)
                        clear hK
                        try simp only [Act.put, List.getElem_toArray, List.getElem_cons_zero, List.getElem_cons_succ, List.setIfInBounds_toArray, List.set_cons_zero, List.set_cons_succ]
                        refine wpAnyH_take (i := 7) (v := .pointer (some ⟨E, 2, none⟩)) rfl (by kernel_rfl) (by kernel_rfl) (by kernel_rfl) (fun _ _ _ h => (h : False).elim) (Or.inl ⟨by rfl, ?_⟩) trivial ?_
                        · intro w hSw
                          go_simp
                        try simp only [Act.put, List.getElem_toArray, List.getElem_cons_zero, List.getElem_cons_succ, List.setIfInBounds_toArray, List.set_cons_zero, List.set_cons_succ]
                        refine wpAnyH_ready (rs := [8]) (by kernel_rfl) (by simp) ?_
                        refine AllReadyH.cons rfl (fun K hK => ?_) AllReadyH.nil
                        obtain ⟨f1, f2, f3⟩ := FIN.out
                        obtain ⟨q0, q1, q2⟩ := box3 f1
                        have q3 := box_frozen f1 2
                        go_simp
                        refine hK.out _ _ trivial (fun _ => ?_)
                        clear hK q0 q1 q2 q3 f1 f2 f3
                        try simp only [Act.put, List.getElem_toArray, List.getElem_cons_zero, List.getElem_cons_succ, List.setIfInBounds_toArray, List.set_cons_zero, List.set_cons_succ]
                        refine ⟨by kernel_rfl, ?_⟩
                        refine NoPanic.normal ?_
                        go_wp2_with fail
                        go_roundw
                        case rel =>
                          obtain ⟨-, f2, ps', g1, g2, g3, g4, g5⟩ := FIN.out
                          exact ⟨i + 1, ps', _, by omega, by go_num, g1, f2, g2, g3, g4, g5⟩
                        case measure => simp [intOf]; omega
            · have hii : ¬ (i : Int) < 26 := by omega
              go_wp2_with (go_at_call 8; refine (awake_any _).mono ?_; rintro e z1 ⟨rfl, hq⟩; have Z1 := Lib.hid hq; clear hq)
              go_ret
              refine ⟨rfl, ?_⟩
              have h5 := HR.out.2.2.2.2
              rw [hB0_]
              exact h5.trans (Z1.out.mono (by have := heap_lt HR.out.1; have := HST.out.2.2.2.2; omega))
end Go.Proofs.Ytnohnkhhkeikoaa
