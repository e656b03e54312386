/- The kit's expressions: lent. -/
import Derived.Test.YtnohnkhhkeikoaaKX
namespace Go.Proofs.Ytnohnkhhkeikoaa
open Go.ChangeShapes Go.WideShapes Go.ChangeAt Go.RowKit
set_option linter.unusedVariables false
set_option linter.unusedSimpArgs false

attribute [local go_sem] Oper.semAt_some

theorem LR.form {q : Nat → Prop} {w : World} {v : Value} {xs : List X} (h : LR q w v xs) : ∃ g c, v = .slice (some ⟨g, 0, none⟩) xs.length c ∧ q g ∧ xs.length + 12 ≤ c := by
  cases h with
  | mk g c ps hq hc hcell hk => exact ⟨g, c, by simp, hq, by simpa using hc⟩
/-- a kid more -/
theorem LK.more {W w2 W1 W' : World} {base : Nat} {v v' : Value} {ps : List (X × Value)} {y : X} {kv : Value} (h : LK W base v ps) (hbase : base ≤ W.heap.size) (hv : ∀ g, v.ownBlock = some g → g < W.heap.size)
    (hy : LR (fun b => W.heap.size ≤ b ∧ b < w2.heap.size) w2 kv y.kids) (h2 : Below W.heap.size W w2) (h1 : Below w2.heap.size w2 W1) (hg : W1.grownBy W' v.ownBlock) (hat : v'.ownBlock = v.ownBlock ∨ v'.ownBlock = some W1.heap.size) : LK W' base v' (ps ++ [(y, kv)]) := by
  have h21 : Below W.heap.size W W1 := h2.trans (h1.mono h2.size)
  refine ⟨fun p hp => ?_⟩
  rcases List.mem_append.1 hp with hp | hp
  · exact (h.grown h21 hg hat).hk p hp
  · rw [List.mem_singleton] at hp
    subst hp
    refine hy.keep (fun b hb => ?_) (fun b hb => ⟨Nat.le_trans hbase hb.1, Nat.lt_of_lt_of_le hb.2 (Nat.le_trans h1.size hg.size), fun e => ?_⟩)
    · rw [hg.block b (Nat.lt_of_lt_of_le hb.2 h1.size) (fun e => by have := hv b e.symm; have := hb.1; omega)]
      exact h1.block b hb.2
    · rcases hat with h3 | h3
      · rw [h3] at e
        have := hv b e
        have := hb.1
        omega
      · rw [h3] at e
        injection e with e
        have := h1.size
        have := hb.2
        omega

set_option maxRecDepth 100000 in
set_option maxHeartbeats 4000000 in
theorem lent32_any {xs : List X} (hxs : ∀ x ∈ xs, L9 x) (hl : xs.length ≤ 100000) {N : Nat} {w : World} {v : Value} (hx : XR N w v xs) (hN : N ≤ w.heap.size) : Calls Try.prog 32 #[v] w (L32 w xs) := by
  obtain ⟨i9, hi9, hz9, hs9, hb9⟩ := info_parts parts25
  have HX := Lib.hid (fun W (h : Below w.heap.size w W) => hx.bel (h.mono hN))
  obtain ⟨A, c, rfl⟩ := hx.form
  unfold L32
  obtain ⟨n, hn⟩ : ∃ n, xs.length = n := ⟨_, rfl⟩
  have HLN := Lib.hid hn
  rw [hn] at HX hl ⊢
  have HXS := Lib.hid hxs
  have HNW := Lib.hid hN
  clear hx hn hxs hN
  obtain ⟨M, hM⟩ : ∃ M, M = madeCells (Value.agg #[.int .i64 0, .string ⟨#[]⟩, .slice none 0 0]).cells ((n + 12) * i9.size) := ⟨_, rfl⟩
  have hMs : M.size = (n + 12) * 3 := by rw [hM, size_madeCells, hs9]
  have eN : ((n : Int) + 12).toNat = n + 12 := by omega
  have hmk : ∀ W : World, (Instr.makeSlice 23 (.int .i64 0) (.int .i64 ((n : Int) + 12))).run Try.prog W = .ok (.slice (some ⟨W.heap.size, 0, none⟩) 0 (n + 12)) (W.alloc (.cells M 25)) := fun W => by
    have h := run_make (P := Try.prog) W 23 25 i9 (.agg #[.int .i64 0, .string ⟨#[]⟩, .slice none 0 0]) Try.underlying23 hi9 hz9 .i64 .i64 0 ((n : Int) + 12) (by omega) (by omega) (by rw [hb9]; omega) (by omega)
    rw [eN, ← hM] at h
    simpa using h
  have HMS := Lib.hid hMs
  clear hM hMs eN
  go_enter Try.func32, Try.ntmps32
  go_upto_region 3 with (fail)
  obtain ⟨W0, hW0⟩ : ∃ W0, w.alloc (.cells M 25) = W0 := ⟨_, rfl⟩
  try rw [hW0]
  have HB0 := Lib.hid (show Below w.heap.size w W0 by rw [← hW0]; exact (Below.refl _ w).alloc (Nat.le_refl _) _)
  have HO0 := Lib.hid (show W0.ownsRow w.heap.size 25 3 (.slice (some ⟨w.heap.size, 0, none⟩) 0 (n + 12)) 0 [] by rw [← hW0]; exact World.ownsRow_made w M (n + 12) (Nat.le_refl _) (by unfold maxLen; omega) HMS.out)
  clear hmk hW0
  go_loopw [3, 4, 5] (fun u3 u4 u5 wr => ∃ (k : Nat) (ps : List (X × Value)), k ≤ n ∧ u4 = .int .i64 k ∧ ps.map Prod.fst = xs.take k ∧ wr.ownsRow w.heap.size 25 3 u3 k (flatP ps) ∧ LK wr w.heap.size u3 ps ∧ Below w.heap.size w wr) (fun u3 u4 u5 _ => n + 1 - (intOf u4).toNat)
  case atStart => exact ⟨0, [], Nat.zero_le _, rfl, rfl, HO0.out, ⟨fun p hp => absurd hp (by simp)⟩, HB0.out⟩
  case round =>
    obtain ⟨k, ps, hk, rfl, hps, hrow, hlk, hb⟩ := hrel
    have HR := Lib.hid (And.intro hps (And.intro hrow (And.intro hlk hb)))
    clear HO0 HB0 HMS
    by_cases hkn : k < n
    · have hki : (k : Int) < (n : Int) := by omega
      have hkl : k < xs.length := by have := HLN.out; omega
      obtain ⟨ad, ky, e1, hbA, a0, a1, a2, hky⟩ := (HX.out wr hb).at3 hkl
      subst e1
      have HTK := Lib.hid (List.take_succ_eq_append_getElem hkl)
      have hy9 := HXS.out xs[k] (List.getElem_mem _)
      obtain ⟨y, hy⟩ : ∃ y, xs[k] = y := ⟨_, rfl⟩
      rw [hy] at a0 a1 hky hy9 HTK
      have HC := Lib.hid (hy9 N wr _ ⟨ky, rfl, hky⟩ (Nat.le_trans HNW.out hb.size))
      obtain ⟨A3, c3, rfl⟩ := row_form hrow
      obtain ⟨kd, hkd⟩ : ∃ kd, y.kind = kd := ⟨_, rfl⟩
      obtain ⟨lb, hlb⟩ : ∃ lb, y.lab = lb := ⟨_, rfl⟩
      have HKL := Lib.hid (And.intro hkd hlb)
      rw [hkd, hlb] at HC
      rw [hkd] at a0
      rw [hlb] at a1
      clear hps hrow hlk hb hky hy9 hy hkd hlb
      go_wp2_with (first
        | (go_at_call 9; go_loud (refine HC.out.mono ?_; rintro e w2 ⟨kv, rfl, hlr, hb2⟩; obtain ⟨g2, c2, rfl, _, _⟩ := hlr.form; have H2 := Lib.hid (And.intro hlr hb2); have hrow2 := HR.out.2.1.kept (w' := w2) (row := none) ⟨hb2.os, hb2.tape, hb2.output, hb2.size, fun i hi _ => hb2.block i hi⟩ (by cases hv : Value.ownBlock _ <;> simp); have hz2 := hb2.size; have hz1 := HR.out.2.2.2.size; clear hlr hb2))
        | (at_builtin; refine wpList_append_own_at _ rfl _ _ 23 rfl w.heap.size 25 i9 (.agg #[.int .i64 0, .string ⟨#[]⟩, .slice none 0 0]) 3 48 Try.underlying23 hi9 hz9 hs9 hb9 rfl (by decide) _ _ _ rfl ((hrow2.alloc _).alloc _) ⟨w2.heap.size + 1, 0, none⟩ 1 1 [.int .i64 kd, .string lb, .slice (some ⟨g2, 0, none⟩) y.kids.length c2] rfl rfl (lit_cells (w2.alloc _) _ (by simp) _ 25) (by simp [Value.oneCell']) (by unfold maxLen; omega) (by omega) (by simp; omega) ?_; intro v' w4 hown' hgrow hnil hloc))
      go_roundw
      case rel =>
        obtain ⟨h1, h2, h3, h4⟩ := HR.out
        have hb21 : Below w2.heap.size w2 ((w2.alloc (.cells #[.int .i64 kd, .string lb, .slice (some ⟨g2, 0, none⟩) y.kids.length c2] 25)).alloc (.cells #[.int .i64 kd, .string lb, .slice (some ⟨g2, 0, none⟩) y.kids.length c2] 25)) := ((Below.refl _ w2).alloc (Nat.le_refl _) _).alloc (by simp) _
        refine ⟨k + 1, ps ++ [(y, .slice (some ⟨g2, 0, none⟩) y.kids.length c2)], by omega, by go_num, ?_, ?_, h3.more hz1 (fun g hg => (h2.lt g hg).2) H2.out.1 H2.out.2 hb21 hgrow hloc, ?_⟩
        · rw [List.map_append, h1, HTK.out]; rfl
        · rw [flatP_app, flatP_cons, flatP_nil, HKL.out.1, HKL.out.2]
          exact hown'
        · exact ((h4.trans ((H2.out.2.trans (hb21.mono hz2)).mono h4.size))).grown hgrow (by simp; omega) (fun g hg => (hrow2.lt g hg).1)
      case measure => simp [intOf]; omega
    · have hki : ¬ (k : Int) < (n : Int) := by omega
      obtain rfl : n = k := by omega
      have hpx : ps.map Prod.fst = xs := by rw [hps, ← HLN.out]; exact List.take_length
      have hpl : ps.length = n := by rw [← HLN.out, ← hpx]; simp
      have HPX := Lib.hid (And.intro hpx hpl)
      obtain ⟨W3, hW3⟩ : ∃ W3, wr = W3 := ⟨_, rfl⟩
      clear hps hrow hlk hb hpx hpl
      go_upto_region 8 with (fail)
      subst hW3
      go_loopw [3, 6] (fun u3 u6 wr => ∃ j : Nat, j ≤ 12 ∧ u6 = .int .i64 j ∧ wr.ownsRow w.heap.size 25 3 u3 (n + j) (flatP (ps ++ mkps.take j)) ∧ LK wr w.heap.size u3 ps ∧ Below w.heap.size w wr) (fun _ u6 _ => 13 - (intOf u6).toNat)
      case atStart => exact ⟨0, Nat.zero_le _, rfl, by simpa using HR.out.2.1, HR.out.2.2.1, HR.out.2.2.2⟩
      case round =>
        clear HR
        obtain ⟨j, hj, rfl, hrow, hlk, hb⟩ := hrel
        have HR := Lib.hid (And.intro hrow (And.intro hlk hb))
        by_cases hlt : j < 12
        · have hj12 : (j : Int) < 12 := by omega
          have HMK := Lib.hid (fun W => markExpr_any j (by omega) W)
          obtain ⟨mk, hmk⟩ : ∃ mk : Int, (8000024 + (j : Int)) = mk := ⟨_, rfl⟩
          have HM := Lib.hid hmk
          rw [hmk] at HMK
          clear hmk
          obtain ⟨A3, c3, rfl⟩ := row_form hrow
          clear hrow hlk hb
          go_wp2_with (first
            | (go_at_call 47; refine (HMK.out _).mono ?_; rintro e w2 ⟨rfl, hb2⟩; have H2 := Lib.hid hb2; have hrow2 := HR.out.1.kept (w' := w2) (row := none) ⟨hb2.os, hb2.tape, hb2.output, hb2.size, fun i hi _ => hb2.block i hi⟩ (by cases hv : Value.ownBlock _ <;> simp); have hz2 := hb2.size; have hz1 := HR.out.2.2.size; clear hb2)
            | (at_builtin; refine wpList_append_own_at _ rfl _ _ 23 rfl w.heap.size 25 i9 (.agg #[.int .i64 0, .string ⟨#[]⟩, .slice none 0 0]) 3 48 Try.underlying23 hi9 hz9 hs9 hb9 rfl (by decide) _ _ _ rfl (hrow2.alloc _) ⟨w2.heap.size, 0, none⟩ 1 1 [.int .i64 mk, .string ⟨#[]⟩, .slice none 0 0] rfl rfl (lit_cells w2 _ rfl _ 25) (by simp [Value.oneCell']) (by unfold maxLen; omega) (by omega) (by simp; omega) ?_; intro v' w4 hown' hgrow hnil hloc))
          go_roundw
          case rel =>
            obtain ⟨h2, h3, h4⟩ := HR.out
            have hb21 : Below w2.heap.size w2 (w2.alloc (.cells #[.int .i64 mk, .string ⟨#[]⟩, .slice none 0 0] 25)) := (Below.refl _ w2).alloc (Nat.le_refl _) _
            refine ⟨j + 1, by omega, by go_num, ?_, h3.grown (H2.out.trans (hb21.mono hz2)) hgrow hloc, ?_⟩
            · rw [List.take_succ_eq_append_getElem (by rw [mkps_len]; exact hlt), mkps_get, ← List.append_assoc, flatP_app, flatP_cons, flatP_nil, ← Nat.add_assoc]
              have e : (mX j).kind = mk := HM.out
              rw [e]
              exact hown'
            · exact (h4.trans ((H2.out.trans (hb21.mono hz2)).mono h4.size)).grown hgrow (by simp; omega) (fun g hg => (hrow2.lt g hg).1)
          case measure => simp [intOf]; omega
        · obtain rfl : j = 12 := by omega
          rw [List.take_of_length_le (by rw [mkps_len]; exact Nat.le_refl _)] at hrow
          obtain ⟨g, cap, rfl, hcap, _, hgb, hgw⟩ := own_succ2 (k := n + 11) hrow
          have hc2 : n ≤ cap := by omega
          have hc3 : (n : Int) ≤ (cap : Int) := by omega
          have HR2 := Lib.hid (And.intro hrow (And.intro hlk (And.intro hb (And.intro hgb (And.intro hgw hcap)))))
          clear hrow hlk hb HR
          go_wp2_with fail
          go_ret
          obtain ⟨h1, h2, h3, h4, h5, h6⟩ := HR2.out
          obtain ⟨p1, p2⟩ := HPX.out
          have hfin := LR.mk (q := fun b => w.heap.size ≤ b ∧ b < wr.heap.size) (w := wr) g cap ps ⟨h4, h5⟩ (by omega) (fun j u hu => by
            have := h1.cells (g := g) rfl j u hu
            rwa [at_zero] at this) (fun p hp => (h2.hk p hp).keep (fun b hb => rfl) (fun b hb => ⟨hb.1, hb.2.1⟩))
          rw [p1, p2] at hfin
          exact ⟨_, rfl, hfin, h3⟩

set_option maxRecDepth 100000 in
set_option maxHeartbeats 4000000 in
theorem lent9_any : ∀ x : X, x.sz ≤ 100000 → L9 x := by
  intro x
  induction x using X.ind' with
  | h x ih =>
    intro hsz N w v hx hN
    obtain ⟨kx, rfl, hkx⟩ := hx
    have hle : szL x.kids ≤ 100000 := by have := x.sz_eq; omega
    obtain ⟨W0, hW0⟩ : ∃ W0, (w.alloc (.cells #[.int .i64 x.kind, .string x.lab, kx] 25)).alloc (.cells #[.int .i64 0, .string ⟨#[]⟩, .slice none 0 0] 25) = W0 := ⟨_, rfl⟩
    have hz0 : W0.heap.size = w.heap.size + 2 := by rw [← hW0]; simp
    have hb0 : Below w.heap.size w W0 := by rw [← hW0]; exact ((Below.refl _ w).alloc (Nat.le_refl _) _).alloc (by simp) _
    have hc3 : W0.heap[w.heap.size]? = some (.cells #[.int .i64 x.kind, .string x.lab, kx] 25) := by rw [← hW0, Below.heap_alloc _ _ _ (by simp)]; exact at_push _ _
    have hc4 : W0.heap[w.heap.size + 1]? = some (.cells #[.int .i64 0, .string ⟨#[]⟩, .slice none 0 0] 25) := by
      rw [← hW0]
      have := at_push (w.alloc (.cells #[.int .i64 x.kind, .string x.lab, kx] 25)) (.cells #[.int .i64 0, .string ⟨#[]⟩, .slice none 0 0] 25)
      rwa [World.size_alloc] at this
    have HC := Lib.hid (lent32_any (xs := x.kids) (fun y hy => ih y hy (by have := szL_mem hy; omega)) (by have := len_szL x.kids; omega) (hkx.bel (hb0.mono hN)) (Nat.le_trans hN hb0.size))
    unfold L32 at HC
    have HB0 := Lib.hid (And.intro hb0 hz0)
    have HBX := Lib.hid (fun W (h : Below W0.heap.size W0 W) => And.intro (box3 ((h.block _ (by omega)).trans hc3)) (And.intro (box3 ((h.block _ (by omega)).trans hc4)) (And.intro ((h.block _ (by omega)).trans hc3) ((h.block _ (by omega)).trans hc4))))
    obtain ⟨⟨d0, d1, d2⟩, ⟨d3, d4, d5⟩, -⟩ := HBX.out W0 (Below.refl _ _)
    generalize x.kind = kd at *
    generalize x.lab = lb at *
    generalize x.kids = ks at *
    clear hc3 hc4 hz0 hb0 hkx ih
    go_enter Try.func9, Try.ntmps9
    go_upto_region 1 with (fail)
    try rw [hW0]
    go_wp2_with (go_at_call 32; go_loud (refine HC.out.mono ?_; rintro e w1 ⟨v1, rfl, hlr, hb1⟩; obtain ⟨g1, c1, rfl, _, _⟩ := hlr.form; have H1 := Lib.hid (And.intro hlr hb1); obtain ⟨⟨d0, d1, d2⟩, ⟨d3, d4, d5⟩, b1, b2⟩ := HBX.out _ hb1; have g2 : w1.frozen? ⟨w.heap.size, 2, none⟩ = false := (by simp [World.frozen?, b1]); have f0 : w1.frozen? ⟨w.heap.size + 1, 0, none⟩ = false := (by simp [World.frozen?, b2]); have f1 : w1.frozen? ⟨w.heap.size + 1, 1, none⟩ = false := (by simp [World.frozen?, b2]); have f2 : w1.frozen? ⟨w.heap.size + 1, 2, none⟩ = false := (by simp [World.frozen?, b2]); clear hlr hb1 b1 b2))
    obtain ⟨h1, h2⟩ := H1.out
    obtain ⟨hb0, hz0⟩ := HB0.out
    have hW : Below w.heap.size w ((((w1.setCell ⟨w.heap.size, 2, none⟩ (.slice (some ⟨g1, 0, none⟩) ks.length c1)).setCell ⟨w.heap.size + 1, 0, none⟩ (.int .i64 kd)).setCell ⟨w.heap.size + 1, 1, none⟩ (.string lb)).setCell ⟨w.heap.size + 1, 2, none⟩ (.slice (some ⟨g1, 0, none⟩) ks.length c1)) :=
      ((((hb0.trans (h2.mono hb0.size)).setCell (p := ⟨w.heap.size, 2, none⟩) (Nat.le_refl _) _).setCell (p := ⟨w.heap.size + 1, 0, none⟩) (Nat.le_succ _) _).setCell (p := ⟨w.heap.size + 1, 1, none⟩) (Nat.le_succ _) _).setCell (p := ⟨w.heap.size + 1, 2, none⟩) (Nat.le_succ _) _
    have hlr := h1.keep (q' := fun b => w.heap.size ≤ b ∧ b < ((((w1.setCell ⟨w.heap.size, 2, none⟩ (.slice (some ⟨g1, 0, none⟩) ks.length c1)).setCell ⟨w.heap.size + 1, 0, none⟩ (.int .i64 kd)).setCell ⟨w.heap.size + 1, 1, none⟩ (.string lb)).setCell ⟨w.heap.size + 1, 2, none⟩ (.slice (some ⟨g1, 0, none⟩) ks.length c1)).heap.size) (w' := ((((w1.setCell ⟨w.heap.size, 2, none⟩ (.slice (some ⟨g1, 0, none⟩) ks.length c1)).setCell ⟨w.heap.size + 1, 0, none⟩ (.int .i64 kd)).setCell ⟨w.heap.size + 1, 1, none⟩ (.string lb)).setCell ⟨w.heap.size + 1, 2, none⟩ (.slice (some ⟨g1, 0, none⟩) ks.length c1)))
      (fun b hb => by
        rw [Below.heap_setCell _ _ _ _ (by show b ≠ w.heap.size + 1; omega), Below.heap_setCell _ _ _ _ (by show b ≠ w.heap.size + 1; omega), Below.heap_setCell _ _ _ _ (by show b ≠ w.heap.size + 1; omega), Below.heap_setCell _ _ _ _ (by show b ≠ w.heap.size; omega)])
      (fun b hb => ⟨by omega, by simp [World.setCell]; exact hb.2⟩)
    exact bodyPost_ret (v := .agg #[.int .i64 kd, .string lb, .slice (some ⟨g1, 0, none⟩) ks.length c1]) (by simp [results, Try.results9, go_sem, d0, d1, d2, d3, d4, d5, f0, f1, f2]) rfl ⟨_, rfl, hlr, hW⟩
end Go.Proofs.Ytnohnkhhkeikoaa
