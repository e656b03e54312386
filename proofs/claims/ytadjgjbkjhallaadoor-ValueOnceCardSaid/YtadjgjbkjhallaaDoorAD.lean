/- Walk of Set: sorted, each once. -/
import Derived.Test.YtadjgjbkjhallaaDoorAC
namespace Go.Proofs.YtadjgjbkjhallaaDoor
open Go.ChangeShapes Go.WideShapes Go.ChangeAt Go.RowKit Go.Deep
set_option linter.unusedVariables false

def SetR (ls : List (List Vt)) (w : World) (e : Ending) (w' : World) : Prop := ∃ v, e = .returned v ∧ ∃ S, RRV w'.heap.size w' v S ∧ SetOf ls S ∧ S.length ≤ ls.length ∧ Below w.heap.size w w'

theorem SetOf.perm {P ls S : List (List Vt)} (h : SetOf P S) (hp : P.Perm ls) : SetOf ls S := ⟨h.up, fun x => (h.mem x).trans hp.mem_iff⟩
theorem SetOf.nil : SetOf [] [] := ⟨List.Pairwise.nil, fun _ => Iff.rfl⟩
/-- what holds as the set grows: its cells, their rows in blocks that are kept -/
def HeldV (B : Nat) (w : World) (sv : Value) (S : List (List Vt)) (vals : List Value) : Prop :=
  w.ownsRow B 38 1 sv S.length vals ∧ vals.length = S.length ∧ ∀ k (h : k < S.length), ∃ rv, vals[k]? = some rv ∧ VR w rv S[k] ∧ (0 < S[k].length → ∀ g, rv.ownBlock = some g → sv.ownBlock ≠ some g)
def Held (B : Nat) (w : World) (sv : Value) (S : List (List Vt)) : Prop := ∃ vals, HeldV B w sv S vals
theorem grownBy_of_below {w w' : World} (hb : Below w.heap.size w w') : w.grownBy w' none := ⟨hb.os, hb.tape, hb.output, hb.size, fun k hk _ => hb.block k hk⟩
theorem HeldV.next {B : Nat} {w w' : World} {sv : Value} {S : List (List Vt)} {vals : List Value} (h : HeldV B w sv S vals) (hb : Below w.heap.size w w') : HeldV B w' sv S vals := by
  refine ⟨h.1.kept (grownBy_of_below hb) (by
    rcases h.1.2 with ⟨rfl, _⟩ | ⟨g, cap, cur, rfl, _⟩
    · exact .inl rfl
    · exact .inr (fun e => by cases e)), h.2.1, fun k hk => ?_⟩
  obtain ⟨rv, h1, h2, h3⟩ := h.2.2 k hk
  exact ⟨rv, h1, h2.below hb, h3⟩
theorem HeldV.one {B : Nat} {w : World} {sv : Value} {S : List (List Vt)} {vals : List Value} (h : HeldV B w sv S vals) : Held B w sv S := ⟨vals, h⟩
theorem HeldV.app {B : Nat} {w w' : World} {sv sv' rv : Value} {S : List (List Vt)} {x : List Vt} {vals : List Value} (h : HeldV B w sv S vals) (g1 : w'.ownsRow B 38 1 sv' (S.length + 1) (vals ++ [rv])) (g2 : w.grownBy w' sv.ownBlock)
    (g4 : sv'.ownBlock = sv.ownBlock ∨ sv'.ownBlock = some w.heap.size) (hx : VR w rv x) (hne : 0 < x.length → ∀ g, rv.ownBlock = some g → sv.ownBlock ≠ some g) : Held B w' sv' (S ++ [x]) := by
  have hk := Keep.of_grown (p := fun k => sv.ownBlock ≠ some k) g2 (fun k _ h e => h e.symm)
  have hne' : ∀ {rv : Value} {x : List Vt}, VR w rv x → (0 < x.length → ∀ g, rv.ownBlock = some g → sv.ownBlock ≠ some g) → (0 < x.length → ∀ g, rv.ownBlock = some g → sv'.ownBlock ≠ some g) := by
    intro rv x h1 h2 h0 g e
    have h3 := h1.lt h0 g e
    rcases g4 with q | q
    · rw [q]; exact h2 h0 g e
    · rw [q]; intro e2; injection e2 with e2; omega
  have hl : (S ++ [x]).length = S.length + 1 := by simp
  refine ⟨vals ++ [rv], by rw [hl]; exact g1, by rw [List.length_append, hl, h.2.1]; rfl, fun k hk' => ?_⟩
  rw [hl] at hk'
  by_cases hlt : k < S.length
  · obtain ⟨u, h1, h2, h3⟩ := h.2.2 k hlt
    refine ⟨u, by rw [List.getElem?_append_left (by rw [h.2.1]; exact hlt)]; exact h1, ?_, ?_⟩
    · rw [List.getElem_append_left hlt]; exact h2.keep hk fun h0 g e _ => h3 h0 g e
    · rw [List.getElem_append_left hlt]; exact hne' h2 h3
  · obtain rfl : k = S.length := by omega
    refine ⟨rv, by rw [List.getElem?_append_right (by rw [h.2.1]; omega), h.2.1]; simp, ?_, ?_⟩
    · rw [List.getElem_append_right (by omega)]; simp only [Nat.sub_self, List.getElem_cons_zero]; exact hx.keep hk fun h0 g e _ => hne h0 g e
    · rw [List.getElem_append_right (by omega)]; simp only [Nat.sub_self, List.getElem_cons_zero]; exact hne' hx hne
theorem Held.rrv {B : Nat} {w : World} {sv : Value} {S : List (List Vt)} (h : Held B w sv S) : RRV w.heap.size w sv S := by
  obtain ⟨vals, h⟩ := h
  refine RRV.of_own h.1 ⟨h.2.1, fun k hk => ?_⟩ (Nat.le_refl _)
  obtain ⟨u, h1, h2, h3⟩ := h.2.2 k hk
  exact ⟨u, h1, h2, h2.lt⟩

set_option maxHeartbeats 2000000 in
set_option maxRecDepth 100000 in
theorem set_any {N : Nat} {w : World} {v : Value} {ls : List (List Vt)} (h : RRV N w v ls) (hN : N ≤ w.heap.size) (hl : ls.length ≤ 1000000) (hls : ∀ l ∈ ls, l.length ≤ 1000000) : Calls Tryd.prog 24 #[v] w (SetR ls w) := by
  obtain ⟨i0, hi, hz0, hz1, hz3⟩ := info_parts38
  have HN := Lib.hid hN
  have HLS := Lib.hid hls
  have HCL := Lib.hid (cloneR_any h hN hl)
  have HP : ∀ (W : World) (sv : Value) (rvs : List Value), W.ownsRow w.heap.size 38 1 sv ls.length rvs ∧ RowsOf N W rvs ls → Calls Tryd.prog 38 #[sv, .func (.func 21) #[] #[]] W (SortR w.heap.size sv N ls W) := fun W sv rvs hb => sort_rows hb.1 hb.2 hN hl hls
  have HSO := Lib.hid HP
  obtain ⟨A, c, rfl⟩ := h.form
  obtain ⟨n, hn⟩ : ∃ n, ls.length = n := ⟨_, rfl⟩
  have HLN := Lib.hid hn
  unfold SetR
  rw [hn] at HCL hl ⊢
  clear HP hn h hls
  go_enter Tryd.func24, Tryd.ntmps24
  go_wp2_with fail
  go_step3
  go_wp2_with fail
  refine HCL.out.mono ?_
  rintro e w1 ⟨v1, rfl, rvs, ho1, hr1, hb1⟩
  have H1 := Lib.hid hb1
  have hs1 := HSO.out w1 v1 rvs ⟨ho1, hr1⟩
  clear ho1 hr1 hb1
  try go_step3
  go_wp2_with fail
  refine hs1.mono ?_
  rintro e w2 ⟨rfl, rvs2, P, ho2, hr2, hp2, hso2, hg2⟩
  have hb2 : Below w.heap.size w w2 := H1.out.grown hg2 H1.out.size (fun k hk => (ho2.lt k hk).1)
  have HPR := Lib.hid (RRV.of_own ho2 hr2 (Nat.le_trans HN.out hb2.size))
  have HPP := Lib.hid hp2
  have HSRT := Lib.hid hso2
  have HB2 := Lib.hid hb2
  have hPn : P.length = n := by rw [hp2.length_eq, HLN.out]
  have HPN := Lib.hid hPn
  obtain ⟨A1, c1, hv1⟩ := HPR.out.form
  rw [hPn] at hv1
  subst hv1
  have HPL := Lib.hid (fun l hl => HLS.out l (hp2.mem_iff.1 hl))
  clear hs1 ho2 hr2 hp2 hso2 hg2 hb2 hPn
  try go_step3
  go_wp2_with fail
  go_step3
  go_wp2_with fail
  obtain ⟨B, hB⟩ : ∃ B, w2.heap.size = B := ⟨_, rfl⟩
  have HBB := Lib.hid hB
  rw [hB] at HPR
  clear hB
  go_loopw [4, 13] (fun sv i wr => ∃ k : Nat, k ≤ n ∧ i = .int .i64 k ∧ ∃ S, Held B wr sv S ∧ SetOf (P.take k) S ∧ S.length ≤ k ∧ Below B w2 wr) (fun _ i _ => n - (Lib.intOf i).toNat)
  case atStart => exact ⟨0, Nat.zero_le _, rfl, [], ⟨[], World.ownsRow_nil _ _ _ _, rfl, fun k h => absurd h (by simp)⟩, SetOf.nil, Nat.le_refl _, Below.refl _ _⟩
  case round =>
    obtain ⟨k, hk, rfl, S, hh, hset, hSl, hb⟩ := hrel
    have HH := Lib.hid hh
    have HSET := Lib.hid hset
    have HB := Lib.hid hb
    clear hh hset hb
    by_cases hlt : k < n
    · have hkP : k < P.length := by rw [HPN.out]; exact hlt
      have HST := Lib.hid (set_step HSRT.out hkP HSET.out)
      obtain ⟨ad, A2, c2, e1, hadb, hck, hvr, hlow⟩ := (HPR.out.below HB.out).at' hkP
      subst e1
      have hlx := HPL.out P[k] (List.getElem_mem _)
      have hbw : B ≤ wr.heap.size := by rw [← HBB.out]; exact HB.out.size
      have HBW := Lib.hid hbw
      obtain ⟨x, hx⟩ : ∃ x, P[k] = x := ⟨_, rfl⟩
      have HX := Lib.hid hx
      rw [hx] at hck hvr hlow hlx HST
      have hcp : ∀ W, Below wr.heap.size wr W → Calls Tryd.prog 39 #[.slice A2 x.length c2] W (CopR x W) := fun W hb => copied_any (hvr.below hb) hlx
      have HVR := Lib.hid hvr
      obtain ⟨m, hm⟩ : ∃ m, x.length = m := ⟨_, rfl⟩
      rw [hm] at hck hcp HVR
      have HM := Lib.hid hm
      have HCP := Lib.hid hcp
      clear hvr hlow hx hm hcp hadb
      rcases Nat.eq_zero_or_pos k with h0 | h0
      · have hgt : decide ((0 : Int) < (k : Int)) = false := by simp; omega
        have hgt2 : decide (0 < k) = false := by simp; omega
        have HK0 := Lib.hid h0
        clear h0
        go_wp2_with fail
        refine (HCP.out wr (Below.refl _ wr)).mono ?_
        rintro e w5 ⟨vc, rfl, hoc, hb5⟩
        have hvc := VR.of_own hoc
        obtain ⟨A4, c4, rfl, _⟩ := id hvc
        rw [HM.out] at hoc hvc ⊢
        obtain ⟨vals, hvals⟩ := HH.out
        have hv4 := hvals.next (Below.refl _ wr)
        have hv5 := (hv4.next hb5).next ((Below.refl _ w5).alloc (Nat.le_refl _) (.cells #[.slice A4 m c4] 38))
        have hsvl := hv4.1.lt
        have hocl := hoc.lt
        have hcell6 : ∀ j u, [Value.slice A4 m c4][j]? = some u → (w5.alloc (.cells #[.slice A4 m c4] 38)).cell? ((⟨w5.heap.size, 0, none⟩ : Addr).add j) = some u := (World.ownsRow_lit (base := w5.heap.size) (e := 38) (size := 1) w5 #[.slice A4 m c4] 1 (Nat.le_refl _) (by decide) rfl).cells rfl
        have hvc6 := hvc.below ((Below.refl _ w5).alloc (Nat.le_refl _) (.cells #[.slice A4 m c4] 38))
        have hszz : B ≤ w5.heap.size := Nat.le_trans HBW.out (Nat.le_trans (Below.refl wr.heap.size wr).size hb5.size)
        have hsz6 : (w5.alloc (.cells #[.slice A4 m c4] 38)).heap.size = w5.heap.size + 1 := by simp
        have HF := Lib.hid (And.intro hsvl (And.intro hocl (And.intro hb5 (And.intro hvc6 hv5))))
        have hown6 := hv5.1
        have h16 : ∀ u ∈ [Value.slice A4 m c4], u.oneCell' = true := by simp [Value.oneCell']
        clear hvals hv4 hsvl hocl hb5 hvc6 hv5 hoc hvc
        go_wp2_with (at_builtin; refine wpList_append_own_at _ rfl _ _ 43 rfl B 38 i0 _ 1 24 Tryd.underlying43 hi hz0 hz1 hz3 rfl (by decide) _ S.length vals rfl hown6 ⟨w5.heap.size, 0, none⟩ 1 1 [.slice A4 m c4] rfl rfl hcell6 h16 (by unfold maxLen; omega) (by omega) (by omega) ?_; intro sv' w7 g1 g2 g3 g4)
        obtain ⟨f1, f2, f3, f4, f5⟩ := HF.out
        have hheld : Held B w7 sv' (S ++ [x]) := f5.app g1 g2 g4 f4 (fun h0 g e e2 => by
          have a1 := f1 g e2
          have a2 := f2 g e
          omega)
        have hb7 : Below B w2 w7 := (((HB.out.trans ((Below.refl _ wr).mono HBW.out)).trans (f3.mono (Nat.le_trans HBW.out (Below.refl wr.heap.size wr).size))).alloc hszz _).grown g2 (by omega) (fun k hk => (hown6.lt k hk).1)
        have HL := Lib.hid (And.intro hheld hb7)
        clear hheld hb7 f1 f2 f3 f4 f5 g1 g2 g3 g4 hown6 hcell6 h16 hsz6 hszz HF
        go_roundw
        case rel => exact ⟨k + 1, by omega, by go_num, S ++ [x], HL.out.1, HST.out.2 (fun h => absurd h (by have := HK0.out; omega)), by simp; omega, HL.out.2⟩
        case measure => simp [Lib.intOf]; omega
      · have HK0 := Lib.hid h0
        obtain ⟨p, hp⟩ : ∃ p, k - 1 = p := ⟨_, rfl⟩
        have hpi : (k : Int) - 1 = (p : Int) := by omega
        have hpw : IntKind.i64.wrap (p : Int) = p := by simp [IntKind.wrap, IntKind.bits, IntKind.signed]; omega
        have hpn : p < n := by omega
        have hpP : p < P.length := by rw [HPN.out]; omega
        have hgt : decide ((0 : Int) < (k : Int)) = true := by simpa using h0
        have hgt2 : decide (0 < k) = true := by simpa using h0
        obtain ⟨ad2, A3, c3, e2, _, hck2, hvr2, _⟩ := (HPR.out.below HB.out).at' hpP
        injection e2 with e2
        subst e2
        have hly := HPL.out P[p] (List.getElem_mem _)
        obtain ⟨cc, hcc⟩ : ∃ cc, cmpR P[p] x = cc := ⟨_, rfl⟩
        have hpe : (P[k - 1]'(by omega)) = P[p] := by simp only [hp]
        have HCC := Lib.hid (And.intro hcc hpe)
        have hrows : Calls Tryd.prog 21 #[.slice A3 P[p].length c3, .slice A2 x.length c2] wr fun e w' => e = .returned (.int .i64 cc) ∧ Below wr.heap.size wr w' :=
          (rows_gr hvr2 (by rw [HM.out]; exact HVR.out) (Nat.le_trans hly (by omega)) (Nat.le_trans hlx (by omega))).mono fun e w' h => ⟨by rw [h.1, hcc], h.2.below⟩
        obtain ⟨m2, hm2⟩ : ∃ m2, P[p].length = m2 := ⟨_, rfl⟩
        rw [hm2] at hck2 hrows
        rw [HM.out] at hrows
        have HRW := Lib.hid hrows
        clear hvr2 hm2 hcc hpe hrows hly h0
        go_wp2_with fail
        refine HRW.out.mono ?_
        rintro e w4 ⟨rfl, hb4⟩
        by_cases hc0 : cc = 0
        · subst hc0
          have HL := Lib.hid (And.intro HH.out (And.intro hb4 hb4))
          clear hb4
          go_wp2_with fail
          go_roundw
          case rel =>
            obtain ⟨vals, hv⟩ := HH.out
            exact ⟨k + 1, by omega, by go_num, S, (hv.next HL.out.2.1).one, HST.out.1 HK0.out (by rw [HCC.out.2]; exact HCC.out.1), by omega, HB.out.trans (HL.out.2.1.mono HBW.out)⟩
          case measure => simp [Lib.intOf]; omega
        · have hc1 : (cc == (0 : Int)) = false := by simpa using hc0
          have HC0 := Lib.hid hc0
          have HB4 := Lib.hid hb4
          clear hc0 hb4
          go_wp2_with fail
          refine (HCP.out w4 HB4.out).mono ?_
          rintro e w5 ⟨vc, rfl, hoc, hb5⟩
          have hvc := VR.of_own hoc
          obtain ⟨A4, c4, rfl, _⟩ := id hvc
          rw [HM.out] at hoc hvc ⊢
          obtain ⟨vals, hvals⟩ := HH.out
          have hv4 := hvals.next HB4.out
          have hv5 := (hv4.next hb5).next ((Below.refl _ w5).alloc (Nat.le_refl _) (.cells #[.slice A4 m c4] 38))
          have hsvl := hv4.1.lt
          have hocl := hoc.lt
          have hcell6 : ∀ j u, [Value.slice A4 m c4][j]? = some u → (w5.alloc (.cells #[.slice A4 m c4] 38)).cell? ((⟨w5.heap.size, 0, none⟩ : Addr).add j) = some u := (World.ownsRow_lit (base := w5.heap.size) (e := 38) (size := 1) w5 #[.slice A4 m c4] 1 (Nat.le_refl _) (by decide) rfl).cells rfl
          have hvc6 := hvc.below ((Below.refl _ w5).alloc (Nat.le_refl _) (.cells #[.slice A4 m c4] 38))
          have hszz : B ≤ w5.heap.size := Nat.le_trans HBW.out (Nat.le_trans (HB4.out).size hb5.size)
          have hsz6 : (w5.alloc (.cells #[.slice A4 m c4] 38)).heap.size = w5.heap.size + 1 := by simp
          have HF := Lib.hid (And.intro hsvl (And.intro hocl (And.intro hb5 (And.intro hvc6 hv5))))
          have hown6 := hv5.1
          have h16 : ∀ u ∈ [Value.slice A4 m c4], u.oneCell' = true := by simp [Value.oneCell']
          clear hvals hv4 hsvl hocl hb5 hvc6 hv5 hoc hvc
          go_wp2_with (at_builtin; refine wpList_append_own_at _ rfl _ _ 43 rfl B 38 i0 _ 1 24 Tryd.underlying43 hi hz0 hz1 hz3 rfl (by decide) _ S.length vals rfl hown6 ⟨w5.heap.size, 0, none⟩ 1 1 [.slice A4 m c4] rfl rfl hcell6 h16 (by unfold maxLen; omega) (by omega) (by omega) ?_; intro sv' w7 g1 g2 g3 g4)
          obtain ⟨f1, f2, f3, f4, f5⟩ := HF.out
          have hheld : Held B w7 sv' (S ++ [x]) := f5.app g1 g2 g4 f4 (fun h0 g e e2 => by
            have a1 := f1 g e2
            have a2 := f2 g e
            omega)
          have hb7 : Below B w2 w7 := (((HB.out.trans ((HB4.out).mono HBW.out)).trans (f3.mono (Nat.le_trans HBW.out (HB4.out).size))).alloc hszz _).grown g2 (by omega) (fun k hk => (hown6.lt k hk).1)
          have HL := Lib.hid (And.intro hheld hb7)
          clear hheld hb7 f1 f2 f3 f4 f5 g1 g2 g3 g4 hown6 hcell6 h16 hsz6 hszz HF
          go_roundw
          case rel => exact ⟨k + 1, by omega, by go_num, S ++ [x], HL.out.1, HST.out.2 (fun _ => by rw [HCC.out.2, HCC.out.1]; exact HC0.out), by simp; omega, HL.out.2⟩
          case measure => simp [Lib.intOf]; omega
    · obtain rfl : n = k := by omega
      go_wp2_with fail
      rw [Exit.noGoto_ret]
      go_ret
      refine ⟨_, rfl, S, HH.out.rrv, ?_, hSl, HB2.out.trans (HB.out.mono (by rw [← HBB.out]; exact HB2.out.size))⟩
      have := HSET.out
      rw [List.take_of_length_le (by rw [HPN.out]; exact Nat.le_refl _)] at this
      exact this.perm HPP.out
end Go.Proofs.YtadjgjbkjhallaaDoor
