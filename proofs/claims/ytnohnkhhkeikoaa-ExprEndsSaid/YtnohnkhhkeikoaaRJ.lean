/- The reference: the labels of an expression, each at its place. -/
import Derived.Test.YtnohnkhhkeikoaaRI
namespace Go.Proofs.Ytnohnkhhkeikoaa
open Go.ChangeShapes Go.WideShapes Go.ChangeAt Go.RowKit Go.Sort
set_option linter.unusedVariables false
set_option linter.unusedSimpArgs false

attribute [local go_sem] Oper.semAt_some

theorem partsL_app (xs ys : List X) : partsL (xs ++ ys) = partsL xs ++ partsL ys := by
  induction xs with
  | nil => rw [List.nil_append, partsL_nil, List.nil_append]
  | cons x xs ih => rw [List.cons_append, partsL_cons, partsL_cons, ih, List.append_assoc]
theorem SR.mono2 {B B' : Nat} {w : World} {v : Value} {l : Wd} (h : SR B w v l) (hB : B ≤ B') : SR B' w v l := by
  obtain ⟨A, c, e, h⟩ := h
  exact ⟨A, c, e, fun h0 => by
    obtain ⟨ad, e1, h1, h2⟩ := h h0
    exact ⟨ad, e1, Nat.lt_of_lt_of_le h1 hB, h2⟩⟩
/-- what is told: a list that rises, of those that stood there and those of the parts -/
def RL (w : World) (L : Wd) (ps : List X) (e : Ending) (w' : World) : Prop := ∃ v' L', e = .returned v' ∧ SR w'.heap.size w' v' L' ∧ (∀ A m c, v' = .slice A m c → m ≤ c) ∧ Up L' ∧ (∀ s, s ∈ L' ↔ s ∈ L ∨ s ∈ labR ps) ∧ L'.length ≤ L.length + ps.length ∧ Below w.heap.size w w'
def S44 (x : X) : Prop := ∀ (N M : Nat) (w : World) (v lv : Value) (L : Wd), XV N w v x → SR M w lv L → (∀ A m c, lv = .slice A m c → m ≤ c) → N ≤ w.heap.size → M ≤ w.heap.size → Up L → L.length + x.sz ≤ 100000 → Calls Try.prog 44 #[v, lv] w (RL w L x.parts)

set_option maxRecDepth 100000 in
set_option maxHeartbeats 4000000 in
theorem rl_label {x : X} (hk : x.kind = 1) (hks : x.kids = []) : S44 x := by
  intro N M w v lv L hx hw hcap hN hM hup hsz
  obtain ⟨kx, rfl, hkx⟩ := hx
  obtain ⟨A, c, rfl⟩ := hkx.form
  have hws := hw
  obtain ⟨A2, c2, rfl, hw2⟩ := hw
  clear hw2
  have hmc0 := hcap _ _ _ rfl
  obtain ⟨m, hm⟩ : ∃ m, L.length = m := ⟨_, rfl⟩
  unfold RL
  have hlab : labR x.parts = [x.lab] := labR_one hk hks
  have hpl : x.parts.length = x.sz := rfl
  have hpos := x.sz_pos
  rw [hpl]
  obtain ⟨z, hz⟩ : ∃ z, x.sz = z := ⟨_, rfl⟩
  rw [hz] at hsz hpos ⊢
  rw [hm] at hws hmc0 hsz ⊢
  rw [hk]
  obtain ⟨lb, hlb⟩ : ∃ l, x.lab = l := ⟨_, rfl⟩
  rw [hlb] at hlab ⊢
  obtain ⟨W0, hW0⟩ : ∃ W0, w.alloc (.cells #[.int .i64 1, .string lb, .slice A x.kids.length c] 25) = W0 := ⟨_, rfl⟩
  obtain ⟨hb0, hz0, hbx, hkd⟩ := boxed_kids hW0 hkx hN
  have HB0 := Lib.hid hb0
  have HBX := Lib.hid hbx
  have HLC := Lib.hid (fun W (h : Below W0.heap.size W0 W) => (hws.bel ((hb0.mono hM).trans (h.mono (by omega))) : SR M W (.slice A2 m c2) L))
  have HMW := Lib.hid (show M ≤ W0.heap.size by omega)
  have hmc : m ≤ c2 := hmc0
  have HUP := Lib.hid hup
  have HML := Lib.hid hm
  have HLAB := Lib.hid hlab
  have HSZ := Lib.hid hpos
  have HWC := Lib.hid (And.intro hws hcap)
  obtain ⟨d0, d1, d2⟩ := hbx W0 (Below.refl _ _)
  have hm5 : m ≤ 100000 := by omega
  generalize x.kids.length = kn at *
  clear hkx hws hbx hkd hb0 hz0 hk hlb hlab hN hM hup hz hm hcap hpl hks hpos hsz
  go_enter Try.func44, Try.ntmps44
  go_upto_region 1 with (fail)
  try rw [hW0]
  go_upto_region 3 with (fail)
  clear d0 d1 d2
  go_loopw [5] (fun u5 wr => ∃ k : Nat, k ≤ m ∧ u5 = .int .i64 k ∧ (∀ i (hi : i < L.length), i < k → ltT L[i] lb) ∧ Below W0.heap.size W0 wr) (fun u5 _ => m + 1 - (intOf u5).toNat)
  case atStart => exact ⟨0, Nat.zero_le _, rfl, fun i _ h => absurd h (Nat.not_lt_zero _), Below.refl _ _⟩
  case round =>
    obtain ⟨k, hk, rfl, hlow, hb⟩ := hrel
    have HBR := Lib.hid hb
    obtain ⟨d0, d1, d2⟩ := HBX.out wr hb
    clear hb
    by_cases hkm : k < m
    · have hki : (k : Int) < (m : Int) := by omega
      have hkL : k < L.length := by have := HML.out; omega
      have hsr := HLC.out wr HBR.out
      obtain ⟨A2', c2', ew, hw2⟩ := hsr
      injection ew with ew1 ew2 ew3
      subst ew1 ew3
      clear ew2
      obtain ⟨ad2, rfl, hab2, hcs2⟩ := hw2 (by omega)
      have e0 := hcs2 k hkL
      obtain ⟨s, hs⟩ : ∃ s, L[k] = s := ⟨_, rfl⟩
      rw [hs] at e0
      obtain ⟨q, hq⟩ : ∃ q, Op.bytesLess s.toList lb.toList = q := ⟨_, rfl⟩
      have HLS := Lib.hid (lessT s lb)
      rw [hq] at HLS
      have HS := Lib.hid (And.intro hs (And.intro hkL hlow))
      clear hw2 hcs2 hab2 hs hlow
      cases q with
      | true =>
        go_upto_region 3 with (fail)
        go_region
        go_wp2_with fail
        go_roundw
        case rel =>
          refine ⟨k + 1, by omega, by go_num, fun i hi hik => ?_, HBR.out.drew⟩
          by_cases e : i = k
          · subst e; rw [HS.out.1]; exact HLS.out.1 rfl
          · exact HS.out.2.2 i hi (by omega)
        case measure => simp [intOf]; omega
      | false =>
        have HNL := Lib.hid (show ¬ ltT s lb from fun h => by have := HLS.out.2 h; cases this)
        by_cases hsl : s = lb
        · subst hsl
          go_upto_region 3 with (fail)
          go_region
          go_upto_region 5 with (fail)
          go_region
          go_wp2_with fail
          go_ret
          have hfin : SR M wr (.slice (some ad2) m c2) L := HLC.out wr HBR.out
          have hfin2 : SR wr.heap.size wr.drew.drew (.slice (some ad2) m c2) L := by
            obtain ⟨A3, c3, e3, h3⟩ := hfin
            exact ⟨A3, c3, e3, fun h => by
              obtain ⟨ad, e4, h4, h5⟩ := h3 h
              exact ⟨ad, e4, Nat.lt_of_lt_of_le h4 (Nat.le_trans HMW.out HBR.out.size), h5⟩⟩
          refine ⟨_, L, rfl, hfin2, fun A m c e => by injection e with _ e1 e2; omega, HUP.out, fun t => ?_, by have := HML.out; omega, HB0.out.trans (HBR.out.drew.drew.mono HB0.out.size)⟩
          rw [HLAB.out]
          constructor
          · exact .inl
          · rintro (h | h)
            · exact h
            · rw [List.mem_singleton] at h
              subst h
              rw [← HS.out.1]
              exact List.getElem_mem HS.out.2.1
        · have hs' : s.toList ≠ lb.toList := fun h => hsl (by
            have : s.data.toList = lb.data.toList := by rw [← ByteArray.toList_eq, ← ByteArray.toList_eq]; exact h
            exact ByteArray.ext (Array.toList_inj.1 this))
          have hbe : (s.toList == lb.toList) = false := by simp [hs']
          go_upto_region 3 with (fail)
          go_region
          go_upto_region 5 with (fail)
          go_region
          have hlow := HS.out.2.2
          have hupp : ∀ (hk : k < L.length), ltT lb L[k] := fun hk => by rw [HS.out.1]; exact ltT_of HNL.out hsl
          obtain ⟨A2, hA2⟩ : ∃ A2, some ad2 = A2 := ⟨_, rfl⟩
          rw [hA2] at HLC ⊢
          clear hA2 hs' hbe hq e0 HLS HWC
          have hki2 : (k : Int) ≤ (m : Int) := by omega
          have hkc2 : (k : Int) ≤ (c2 : Int) := by omega
          have hk02 : (0 : Int) ≤ (k : Int) := by omega
          have hkm2 : k ≤ m := by omega
          have HS1 := Lib.hid (fun W (h : Below W0.heap.size W0 W) => (HBX.out W h).2.1)
          have HDR := Lib.hid (fun W (h : Below W0.heap.size W0 W) => (HLC.out W h).drop hmc (k := k) (by have := HML.out; omega))
          have HTK := Lib.hid (fun W (h : Below W0.heap.size W0 W) => (HLC.out W h).take (k := k) (by have := HML.out; omega))
          have HPUT := Lib.hid (And.intro (up_put HUP.out (k := k) hlow hupp) (show (L.take k ++ lb :: L.drop k).length = k + (1 + (m - k)) by have := HML.out; simp; omega))
          go_upto_region 7 with (fail)
          obtain ⟨wx, hwx⟩ : ∃ wx, wr.drew.drew = wx := ⟨_, rfl⟩
          have HBW := Lib.hid (show Below W0.heap.size W0 wx by rw [← hwx]; exact HBR.out.drew.drew)
          rw [hwx]
          have GR0 := Lib.hid HBW.out.drew
          clear d0 d1 d2 hlow hupp
          refine wp_region_noPanic ?_
          refine wp_region_held_drew (S := fun W => W.cell? ⟨w.heap.size, 1, none⟩ = some (.string lb)) (by kernel_rfl) (HS1.out _ GR0.out) (fun hHeld => ?_)
          clear hHeld
          refine wpAnyH_take (i := 0) (v := .pointer (some ⟨w.heap.size, 1, none⟩)) rfl (by kernel_rfl) (by kernel_rfl) (by kernel_rfl) (fun _ _ _ h => (h : False).elim) (Or.inl ⟨by rfl, ?_⟩) (HS1.out _ GR0.out) ?_
          · intro w hSw
            obtain hs0 := hSw
            go_simp
          try simp only [Act.put, List.getElem_toArray, List.getElem_cons_zero, List.getElem_cons_succ, List.setIfInBounds_toArray, List.set_cons_zero, List.set_cons_succ]
          refine wpAnyH_take (i := 1) (v := .string lb) rfl (by kernel_rfl) (by kernel_rfl) (by kernel_rfl) (fun _ _ _ h => (h : False).elim) (Or.inl ⟨by rfl, ?_⟩) (HS1.out _ GR0.out) ?_
          · intro w hSw
            obtain hs0 := hSw
            go_simp
          try simp only [Act.put, List.getElem_toArray, List.getElem_cons_zero, List.getElem_cons_succ, List.setIfInBounds_toArray, List.set_cons_zero, List.set_cons_succ]
          refine wpAnyH_take (i := 3) (v := .slice A2 m c2) rfl (by kernel_rfl) (by kernel_rfl) (by kernel_rfl) (fun _ _ _ h => (h : False).elim) (Or.inl ⟨by rfl, ?_⟩) (HS1.out _ GR0.out) ?_
          · intro w hSw
            obtain hs0 := hSw
            go_simp
          try simp only [Act.put, List.getElem_toArray, List.getElem_cons_zero, List.getElem_cons_succ, List.setIfInBounds_toArray, List.set_cons_zero, List.set_cons_succ]
          refine wpAnyH_take (i := 4) (v := .int .i64 k) rfl (by kernel_rfl) (by kernel_rfl) (by kernel_rfl) (fun _ _ _ h => (h : False).elim) (Or.inl ⟨by rfl, ?_⟩) (HS1.out _ GR0.out) ?_
          · intro w hSw
            obtain hs0 := hSw
            go_simp
          try simp only [Act.put, List.getElem_toArray, List.getElem_cons_zero, List.getElem_cons_succ, List.setIfInBounds_toArray, List.set_cons_zero, List.set_cons_succ]
          refine wpAnyH_take (i := 5) (v := .slice (dropA A2 c2 k) (m - k : Nat) (c2 - k : Nat)) rfl (by kernel_rfl) (by kernel_rfl) (by kernel_rfl) (fun _ _ _ h => (h : False).elim) (Or.inl ⟨by rfl, ?_⟩) (HS1.out _ GR0.out) ?_
          · intro w hSw
            obtain hs0 := hSw
            (unfold dropA; go_simp)
          try simp only [Act.put, List.getElem_toArray, List.getElem_cons_zero, List.getElem_cons_succ, List.setIfInBounds_toArray, List.set_cons_zero, List.set_cons_succ]
          refine wpAnyH_ready (rs := [2]) (by kernel_rfl) (by simp) ?_
          refine AllReadyH.cons rfl (fun K hK => ?_) AllReadyH.nil
          go_simp
          have G2 := Lib.hid (HBW.out.alloc HBW.out.size (.cells #[.string lb] 9)).drew
          refine hK.out _ _ (HS1.out _ G2.out) (fun _ => ?_)
          clear hK
          try simp only [Act.put, List.getElem_toArray, List.getElem_cons_zero, List.getElem_cons_succ, List.setIfInBounds_toArray, List.set_cons_zero, List.set_cons_succ]
          refine wpAnyH_ready (rs := [6]) (by kernel_rfl) (by simp) ?_
          refine AllReadyH.cons rfl (fun K hK => ?_) AllReadyH.nil
          refine step_append_sr rfl (.tmp 42) (.tmp 45) rfl W0.heap.size _ 1 [.string lb] (by simp [Act.eval]) (own_lit wx lb HBW.out.size).drew (dropA A2 c2 k) (m - k : Nat) (c2 - k : Nat) (L.drop k) (by simp [Act.eval]) (HDR.out _ G2.out) (by omega) G2.out.size ?_
          intro v6 w6 hown6 hgrow6 hat6
          obtain ⟨A6, c6, rfl⟩ := row_form hown6
          have O6 := Lib.hid hown6
          have G6 := Lib.hid (G2.out.grown hgrow6 G2.out.size (fun g hg => (World.ownsRow.lt (own_lit wx lb HBW.out.size).drew g hg).1))
          clear hown6 hgrow6 hat6
          refine hK.out _ _ (HS1.out _ G6.out) (fun _ => ?_)
          clear hK
          try simp only [Act.put, List.getElem_toArray, List.getElem_cons_zero, List.getElem_cons_succ, List.setIfInBounds_toArray, List.set_cons_zero, List.set_cons_succ]
          refine wpAnyH_take (i := 7) (v := .slice A6 (1 + (m - k)) c6) rfl (by kernel_rfl) (by kernel_rfl) (by kernel_rfl) (fun _ _ _ h => (h : False).elim) (Or.inl ⟨by rfl, ?_⟩) (HS1.out _ G6.out) ?_
          · intro w hSw
            obtain hs0 := hSw
            go_simp
          try simp only [Act.put, List.getElem_toArray, List.getElem_cons_zero, List.getElem_cons_succ, List.setIfInBounds_toArray, List.set_cons_zero, List.set_cons_succ]
          refine ⟨by kernel_rfl, ?_⟩
          have SR6 := Lib.hid (show SR w6.heap.size w6 (.slice A6 (1 + (m - k)) c6) (lb :: L.drop k) from (own_SR2 (l := lb :: L.drop k) (by have h6 := O6.out; rw [show (lb :: L.drop k).length = 1 + (m - k) by have := HML.out; simp; omega]; simpa using h6)).1)
          refine NoPanic.normal ?_
          go_wp2_with (at_builtin; first
            | (refine wpList_append_sr rfl _ _ rfl w6.heap.size (.slice (some ⟨w6.heap.size, 0, none⟩) 0 0) 0 [] rfl (World.ownsRow_made w6 #[] 0 (Nat.le_refl _) (Nat.zero_le _) rfl) A2 k c2 (L.take k) rfl (HTK.out _ (G6.out.alloc G6.out.size _)) (by omega) (by simp) ?_; intro v7 w7 hown7 hgrow7 hat7; have O7 := Lib.hid hown7; have G7 := Lib.hid (show Below w6.heap.size w6 w7 from ((Below.refl _ w6).alloc (Nat.le_refl _) _).grown hgrow7 (by simp) (fun g hg => by simp [Value.ownBlock] at hg; omega)); clear hown7 hgrow7 hat7)
            | (refine wpList_append_sr rfl _ _ rfl w6.heap.size v7 (0 + k) _ rfl O7.out A6 (1 + (m - k)) c6 (lb :: L.drop k) rfl (SR6.out.bel G7.out) (by omega) G7.out.size ?_; intro v8 w8 hown8 hgrow8 hat8; have O8 := Lib.hid hown8; have G8 := Lib.hid (show Below w6.heap.size w6 w8 from G7.out.grown hgrow8 G7.out.size (fun g hg => (O7.out.lt g hg).1)); clear hown8 hgrow8 hat8))
          go_ret
          have hr8 : w8.ownsRow w6.heap.size 9 1 v8 (L.take k ++ lb :: L.drop k).length ((L.take k ++ lb :: L.drop k).map Value.string) := by
            rw [HPUT.out.2]
            have h8 := O8.out
            rw [Nat.zero_add] at h8
            simpa using h8
          refine ⟨_, _, rfl, (own_SR2 hr8).1, (own_SR2 hr8).2, HPUT.out.1, fun s => ?_, ?_, HB0.out.trans ((G6.out.trans (G8.out.mono G6.out.size)).mono HB0.out.size)⟩
          · rw [mem_put, HLAB.out]; simp
          · rw [HPUT.out.2]; have := HML.out; have := HSZ.out; omega
    · have hki : ¬ (k : Int) < (m : Int) := by omega
      have hupp : ∀ (hk : k < L.length), ltT lb L[k] := fun hk => by have := HML.out; omega
      go_upto_region 3 with (fail)
      go_region
      go_upto_region 5 with (fail)
      go_region
      have hki2 : (k : Int) ≤ (m : Int) := by omega
      have hkc2 : (k : Int) ≤ (c2 : Int) := by omega
      have hk02 : (0 : Int) ≤ (k : Int) := by omega
      have hkm2 : k ≤ m := by omega
      have HS1 := Lib.hid (fun W (h : Below W0.heap.size W0 W) => (HBX.out W h).2.1)
      have HDR := Lib.hid (fun W (h : Below W0.heap.size W0 W) => (HLC.out W h).drop hmc (k := k) (by have := HML.out; omega))
      have HTK := Lib.hid (fun W (h : Below W0.heap.size W0 W) => (HLC.out W h).take (k := k) (by have := HML.out; omega))
      have HPUT := Lib.hid (And.intro (up_put HUP.out (k := k) hlow hupp) (show (L.take k ++ lb :: L.drop k).length = k + (1 + (m - k)) by have := HML.out; simp; omega))
      go_upto_region 7 with (fail)
      obtain ⟨wx, hwx⟩ : ∃ wx, wr.drew.drew = wx := ⟨_, rfl⟩
      have HBW := Lib.hid (show Below W0.heap.size W0 wx by rw [← hwx]; exact HBR.out.drew.drew)
      rw [hwx]
      have GR0 := Lib.hid HBW.out.drew
      clear d0 d1 d2 hlow hupp
      refine wp_region_noPanic ?_
      refine wp_region_held_drew (S := fun W => W.cell? ⟨w.heap.size, 1, none⟩ = some (.string lb)) (by kernel_rfl) (HS1.out _ GR0.out) (fun hHeld => ?_)
      clear hHeld
      refine wpAnyH_take (i := 0) (v := .pointer (some ⟨w.heap.size, 1, none⟩)) rfl (by kernel_rfl) (by kernel_rfl) (by kernel_rfl) (fun _ _ _ h => (h : False).elim) (Or.inl ⟨by rfl, ?_⟩) (HS1.out _ GR0.out) ?_
      · intro w hSw
        obtain hs0 := hSw
        go_simp
      try simp only [Act.put, List.getElem_toArray, List.getElem_cons_zero, List.getElem_cons_succ, List.setIfInBounds_toArray, List.set_cons_zero, List.set_cons_succ]
      refine wpAnyH_take (i := 1) (v := .string lb) rfl (by kernel_rfl) (by kernel_rfl) (by kernel_rfl) (fun _ _ _ h => (h : False).elim) (Or.inl ⟨by rfl, ?_⟩) (HS1.out _ GR0.out) ?_
      · intro w hSw
        obtain hs0 := hSw
        go_simp
      try simp only [Act.put, List.getElem_toArray, List.getElem_cons_zero, List.getElem_cons_succ, List.setIfInBounds_toArray, List.set_cons_zero, List.set_cons_succ]
      refine wpAnyH_take (i := 3) (v := .slice A2 m c2) rfl (by kernel_rfl) (by kernel_rfl) (by kernel_rfl) (fun _ _ _ h => (h : False).elim) (Or.inl ⟨by rfl, ?_⟩) (HS1.out _ GR0.out) ?_
      · intro w hSw
        obtain hs0 := hSw
        go_simp
      try simp only [Act.put, List.getElem_toArray, List.getElem_cons_zero, List.getElem_cons_succ, List.setIfInBounds_toArray, List.set_cons_zero, List.set_cons_succ]
      refine wpAnyH_take (i := 4) (v := .int .i64 k) rfl (by kernel_rfl) (by kernel_rfl) (by kernel_rfl) (fun _ _ _ h => (h : False).elim) (Or.inl ⟨by rfl, ?_⟩) (HS1.out _ GR0.out) ?_
      · intro w hSw
        obtain hs0 := hSw
        go_simp
      try simp only [Act.put, List.getElem_toArray, List.getElem_cons_zero, List.getElem_cons_succ, List.setIfInBounds_toArray, List.set_cons_zero, List.set_cons_succ]
      refine wpAnyH_take (i := 5) (v := .slice (dropA A2 c2 k) (m - k : Nat) (c2 - k : Nat)) rfl (by kernel_rfl) (by kernel_rfl) (by kernel_rfl) (fun _ _ _ h => (h : False).elim) (Or.inl ⟨by rfl, ?_⟩) (HS1.out _ GR0.out) ?_
      · intro w hSw
        obtain hs0 := hSw
        (unfold dropA; go_simp)
      try simp only [Act.put, List.getElem_toArray, List.getElem_cons_zero, List.getElem_cons_succ, List.setIfInBounds_toArray, List.set_cons_zero, List.set_cons_succ]
      refine wpAnyH_ready (rs := [2]) (by kernel_rfl) (by simp) ?_
      refine AllReadyH.cons rfl (fun K hK => ?_) AllReadyH.nil
      go_simp
      have G2 := Lib.hid (HBW.out.alloc HBW.out.size (.cells #[.string lb] 9)).drew
      refine hK.out _ _ (HS1.out _ G2.out) (fun _ => ?_)
      clear hK
      try simp only [Act.put, List.getElem_toArray, List.getElem_cons_zero, List.getElem_cons_succ, List.setIfInBounds_toArray, List.set_cons_zero, List.set_cons_succ]
      refine wpAnyH_ready (rs := [6]) (by kernel_rfl) (by simp) ?_
      refine AllReadyH.cons rfl (fun K hK => ?_) AllReadyH.nil
      refine step_append_sr rfl (.tmp 42) (.tmp 45) rfl W0.heap.size _ 1 [.string lb] (by simp [Act.eval]) (own_lit wx lb HBW.out.size).drew (dropA A2 c2 k) (m - k : Nat) (c2 - k : Nat) (L.drop k) (by simp [Act.eval]) (HDR.out _ G2.out) (by omega) G2.out.size ?_
      intro v6 w6 hown6 hgrow6 hat6
      obtain ⟨A6, c6, rfl⟩ := row_form hown6
      have O6 := Lib.hid hown6
      have G6 := Lib.hid (G2.out.grown hgrow6 G2.out.size (fun g hg => (World.ownsRow.lt (own_lit wx lb HBW.out.size).drew g hg).1))
      clear hown6 hgrow6 hat6
      refine hK.out _ _ (HS1.out _ G6.out) (fun _ => ?_)
      clear hK
      try simp only [Act.put, List.getElem_toArray, List.getElem_cons_zero, List.getElem_cons_succ, List.setIfInBounds_toArray, List.set_cons_zero, List.set_cons_succ]
      refine wpAnyH_take (i := 7) (v := .slice A6 (1 + (m - k)) c6) rfl (by kernel_rfl) (by kernel_rfl) (by kernel_rfl) (fun _ _ _ h => (h : False).elim) (Or.inl ⟨by rfl, ?_⟩) (HS1.out _ G6.out) ?_
      · intro w hSw
        obtain hs0 := hSw
        go_simp
      try simp only [Act.put, List.getElem_toArray, List.getElem_cons_zero, List.getElem_cons_succ, List.setIfInBounds_toArray, List.set_cons_zero, List.set_cons_succ]
      refine ⟨by kernel_rfl, ?_⟩
      have SR6 := Lib.hid (show SR w6.heap.size w6 (.slice A6 (1 + (m - k)) c6) (lb :: L.drop k) from (own_SR2 (l := lb :: L.drop k) (by have h6 := O6.out; rw [show (lb :: L.drop k).length = 1 + (m - k) by have := HML.out; simp; omega]; simpa using h6)).1)
      refine NoPanic.normal ?_
      go_wp2_with (at_builtin; first
        | (refine wpList_append_sr rfl _ _ rfl w6.heap.size (.slice (some ⟨w6.heap.size, 0, none⟩) 0 0) 0 [] rfl (World.ownsRow_made w6 #[] 0 (Nat.le_refl _) (Nat.zero_le _) rfl) A2 k c2 (L.take k) rfl (HTK.out _ (G6.out.alloc G6.out.size _)) (by omega) (by simp) ?_; intro v7 w7 hown7 hgrow7 hat7; have O7 := Lib.hid hown7; have G7 := Lib.hid (show Below w6.heap.size w6 w7 from ((Below.refl _ w6).alloc (Nat.le_refl _) _).grown hgrow7 (by simp) (fun g hg => by simp [Value.ownBlock] at hg; omega)); clear hown7 hgrow7 hat7)
        | (refine wpList_append_sr rfl _ _ rfl w6.heap.size v7 (0 + k) _ rfl O7.out A6 (1 + (m - k)) c6 (lb :: L.drop k) rfl (SR6.out.bel G7.out) (by omega) G7.out.size ?_; intro v8 w8 hown8 hgrow8 hat8; have O8 := Lib.hid hown8; have G8 := Lib.hid (show Below w6.heap.size w6 w8 from G7.out.grown hgrow8 G7.out.size (fun g hg => (O7.out.lt g hg).1)); clear hown8 hgrow8 hat8))
      go_ret
      have hr8 : w8.ownsRow w6.heap.size 9 1 v8 (L.take k ++ lb :: L.drop k).length ((L.take k ++ lb :: L.drop k).map Value.string) := by
        rw [HPUT.out.2]
        have h8 := O8.out
        rw [Nat.zero_add] at h8
        simpa using h8
      refine ⟨_, rfl, _, (own_SR2 hr8).1, (own_SR2 hr8).2, HPUT.out.1, fun s => ?_, ?_, HB0.out.trans ((G6.out.trans (G8.out.mono G6.out.size)).mono HB0.out.size)⟩
      · rw [mem_put, HLAB.out]; simp
      · rw [HPUT.out.2]; have := HML.out; have := HSZ.out; omega

def X.isLabel (x : X) : Prop := x.kind = 1
set_option maxRecDepth 100000 in
set_option maxHeartbeats 4000000 in
theorem rl_kids {x : X} (hk : x.kind ≠ 1) (ih : ∀ y ∈ x.kids, S44 y) : S44 x := by
  intro N M w v lv L hx hw hcap hN hM hup hsz
  obtain ⟨kx, rfl, hkx⟩ := hx
  obtain ⟨A, c, rfl⟩ := hkx.form
  have hlab : labR x.parts = labR (partsL x.kids) := labR_not hk
  have hpl : x.parts.length = 1 + szL x.kids := x.sz_eq
  have hze := x.sz_eq
  unfold RL
  rw [hlab, hpl]
  rw [hze] at hsz
  have hkb : (x.kind == 1) = false := by simp [hk]
  obtain ⟨kn, hkn⟩ : ∃ m, x.kids.length = m := ⟨_, rfl⟩
  obtain ⟨ks, hks⟩ : ∃ ks, x.kids = ks := ⟨_, rfl⟩
  rw [hkn] at hkx ⊢
  rw [hks] at hkx hkn ih hsz ⊢
  generalize x.kind = kd at *
  generalize x.lab = lb at *
  obtain ⟨W0, hW0⟩ : ∃ W0, w.alloc (.cells #[.int .i64 kd, .string lb, .slice A kn c] 25) = W0 := ⟨_, rfl⟩
  obtain ⟨hb0, hz0, hbx, hkd⟩ := boxed_kids hW0 hkx hN
  have HB0 := Lib.hid hb0
  have HBX := Lib.hid hbx
  have HKD := Lib.hid hkd
  have HIH := Lib.hid ih
  have HKN := Lib.hid hkn
  have HL0 := Lib.hid (And.intro ((SR.mono2 (hw.bel (hb0.mono hM)) (by omega)) : SR W0.heap.size W0 lv L) (And.intro hcap hup))
  have HNW := Lib.hid (show N ≤ W0.heap.size by omega)
  have hkn1 : kn ≤ 100000 := by have := len_szL ks; omega
  obtain ⟨d0, d1, d2⟩ := hbx W0 (Below.refl _ _)
  clear hkx hbx hkd hb0 hz0 hN hM hup hcap ih hkn hw hlab hpl hze hks
  go_enter Try.func44, Try.ntmps44
  go_upto_region 1 with (fail)
  try rw [hW0]
  go_upto_region 10 with (fail)
  clear d0 d1 d2
  go_loopw [1, 7] (fun u1 u7 wr => ∃ (k : Nat) (L' : Wd), k ≤ kn ∧ u7 = .int .i64 k ∧ SR wr.heap.size wr u1 L' ∧ (∀ A m c, u1 = .slice A m c → m ≤ c) ∧ Up L' ∧ (∀ s, s ∈ L' ↔ s ∈ L ∨ s ∈ labR (partsL (ks.take k))) ∧ L'.length ≤ L.length + szL (ks.take k) ∧ Below W0.heap.size W0 wr) (fun u1 u7 _ => kn + 1 - (intOf u7).toNat)
  case atStart =>
    refine ⟨0, L, Nat.zero_le _, rfl, HL0.out.1, HL0.out.2.1, HL0.out.2.2, fun s => ?_, by omega, Below.refl _ _⟩
    rw [List.take_zero, partsL_nil]
    simp [labR]
  case round =>
    obtain ⟨k, L', hk, rfl, hsr, hcap, hup, hmem, hlen, hb⟩ := hrel
    have HR := Lib.hid (And.intro hsr (And.intro hcap (And.intro hup (And.intro hmem (And.intro hlen hb)))))
    obtain ⟨d0, d1, d2⟩ := HBX.out wr hb
    by_cases hkn : k < kn
    · have hki : (k : Int) < (kn : Int) := by omega
      have hkl : k < ks.length := by have := HKN.out; omega
      obtain ⟨ad, ky, e1, hbA, a0, a1, a2, hky⟩ := (HKD.out wr hb).at3 hkl
      subst e1
      have hy44 := HIH.out ks[k] (List.getElem_mem _)
      have hst := szL_step hkl
      have hle2 : szL (ks.take (k + 1)) ≤ szL ks := by
        have h1 : szL ks = szL (ks.take (k + 1)) + szL (ks.drop (k + 1)) := by rw [← szL_app, List.take_append_drop]
        omega
      have HTK := Lib.hid (List.take_succ_eq_append_getElem hkl)
      obtain ⟨y, hy⟩ : ∃ y, ks[k] = y := ⟨_, rfl⟩
      rw [hy] at a0 a1 hky hy44 hst HTK
      have HST := Lib.hid hst
      have HC := Lib.hid (hy44 N wr.heap.size wr _ _ L' ⟨ky, rfl, hky⟩ hsr hcap (Nat.le_trans HNW.out hb.size) (Nat.le_refl _) hup (by omega))
      clear hsr hcap hup hmem hlen hb hky hy44 hst hy hle2 hsz
      go_wp2_with (go_at_call 44; refine HC.out.mono ?_; rintro e w2 ⟨v2, L2, rfl, h1, h2, h3, h4, h5, h6⟩; have H2 := Lib.hid (And.intro h1 (And.intro h2 (And.intro h3 (And.intro h4 (And.intro h5 h6))))); clear h1 h2 h3 h4 h5 h6)
      go_roundw
      case rel =>
        obtain ⟨h1, h2, h3, h4, h5, h6⟩ := H2.out
        obtain ⟨g1, g2, g3, g4, g5, g6⟩ := HR.out
        refine ⟨k + 1, L2, by omega, by go_num, h1, h2, h3, fun s => ?_, ?_, g6.trans (h6.mono g6.size)⟩
        · rw [h4, g4, HTK.out, partsL_app, labR_app, List.mem_append, partsL_cons, partsL_nil, List.append_nil, or_assoc]
        · have h7 := HST.out
          have h8 : y.parts.length = y.sz := rfl
          omega
      case measure => simp [intOf]; omega
    · have hki : ¬ (k : Int) < (kn : Int) := by omega
      clear hsr hcap hup hmem hlen hb
      go_wp2_with fail
      go_ret
      obtain ⟨g1, g2, g3, g4, g5, g6⟩ := HR.out
      have e : ks.take k = ks := by rw [show k = kn by omega, ← HKN.out]; exact List.take_length
      rw [e] at g4 g5
      exact ⟨_, rfl, L', g1, g2, g3, g4, by omega, HB0.out.trans (g6.mono HB0.out.size)⟩

theorem rlabels44_any : ∀ x : X, x.good → S44 x := by
  intro x
  induction x using X.ind' with
  | h x ih =>
    intro hg
    by_cases hk : x.kind = 1
    · refine rl_label hk ?_
      have h := hg.fit
      unfold X.fits fitB at h
      rw [if_pos hk, Bool.and_eq_true, decide_eq_true_iff] at h
      exact List.eq_nil_of_length_eq_zero h.2
    · exact rl_kids hk fun y hy => ih y hy (hg.kids y hy)

set_option maxHeartbeats 1000000 in
theorem rlabels_any {N : Nat} {w : World} {v : Value} {x : X} (hx : XV N w v x) (hN : N ≤ w.heap.size) (hsz : x.sz ≤ 100000) (hl : x.lit) :
    Calls Try.prog 23 #[v] w fun e w' => ∃ v', e = .returned v' ∧ SR w'.heap.size w' v' x.labs ∧ Below w.heap.size w w' := by
  have hxv := hx
  obtain ⟨kx, rfl, hkx⟩ := hx
  obtain ⟨A, c, rfl⟩ := hkx.form
  obtain ⟨W0, hW0⟩ : ∃ W0, w.alloc (.cells #[.int .i64 x.kind, .string x.lab, .slice A x.kids.length c] 25) = W0 := ⟨_, rfl⟩
  obtain ⟨hb0, hz0, hbx, hkd⟩ := boxed_kids hW0 hkx hN
  have HB0 := Lib.hid hb0
  have HBX := Lib.hid hbx
  have hxW : ∀ W, Below W0.heap.size W0 W → XV N W (.agg #[.int .i64 x.kind, .string x.lab, .slice A x.kids.length c]) x := fun W h => hxv.bel ((hb0.mono hN).trans (h.mono (by omega)))
  have HR := Lib.hid (fun W (h : Below W0.heap.size W0 W) => calls_base (rright_any (hxW W h) (Nat.le_trans hN (Nat.le_trans hb0.size h.size)) hsz hl) h)
  obtain ⟨d0, d1, d2⟩ := hbx W0 (Below.refl _ _)
  obtain ⟨rt, hrt⟩ : ∃ rt, x.right = rt := ⟨_, rfl⟩
  rw [hrt] at HR
  cases rt with
  | false =>
    have HL := Lib.hid (labs_wrong hrt)
    clear hrt hxv hxW hkx hbx hkd hb0
    generalize x.kind = kd at *
    generalize x.lab = lb at *
    generalize x.kids.length = kn at *
    go_enter Try.func23, Try.ntmps23
    go_upto_region 1 with (fail)
    try rw [hW0]
    go_wp2_with (go_at_call 13; refine (HR.out _ (Below.refl _ _)).mono ?_; rintro e w1 ⟨rfl, h1⟩; have H1 := Lib.hid h1; clear h1)
    go_ret
    exact ⟨_, rfl, by rw [HL.out]; exact ⟨none, 0, rfl, fun h => absurd h (Nat.lt_irrefl _)⟩, HB0.out.trans (H1.out.mono HB0.out.size)⟩
  | true =>
    have HRT := Lib.hid hrt
    have HC := Lib.hid (fun W (h : Below W0.heap.size W0 W) => rlabels44_any x (right_good hrt).1 N 0 W _ (.slice none 0 0) [] (hxW W h) ⟨none, 0, rfl, fun h => absurd h (Nat.lt_irrefl _)⟩ (fun A m c e => by injection e with _ e1 e2; omega) (Nat.le_trans hN (Nat.le_trans hb0.size h.size)) (Nat.zero_le _) List.Pairwise.nil (by simpa using hsz))
    have HPL := Lib.hid (fun s => labs_mem hrt s)
    have HUP := Lib.hid (labs_up x)
    clear hrt hxv hxW hkx hbx hkd hb0
    generalize x.kind = kd at *
    generalize x.lab = lb at *
    generalize x.kids.length = kn at *
    go_enter Try.func23, Try.ntmps23
    go_upto_region 1 with (fail)
    try rw [hW0]
    go_wp2_with (first
      | (go_at_call 13; refine (HR.out _ (Below.refl _ _)).mono ?_; rintro e w1 ⟨rfl, h1⟩; have H1 := Lib.hid h1; obtain ⟨d0, d1, d2⟩ := HBX.out _ h1; clear h1)
      | (go_at_call 44; refine (HC.out _ H1.out).mono ?_; rintro e w2 ⟨v2, L2, rfl, h1, h2, h3, h4, h5, h6⟩; have H2 := Lib.hid (And.intro h1 (And.intro h3 (And.intro h4 h6))); clear h1 h2 h3 h4 h5 h6))
    go_ret
    obtain ⟨h1, h3, h4, h6⟩ := H2.out
    have e : L2 = x.labs := up_ext _ _ h3 HUP.out fun s => by rw [h4, HPL.out]; simp
    rw [e] at h1
    exact ⟨_, rfl, h1, HB0.out.trans ((H1.out.trans (h6.mono H1.out.size)).mono HB0.out.size)⟩
end Go.Proofs.Ytnohnkhhkeikoaa
