/- Walk of items that go down. -/
import Derived.Test.YtfcdgfjpmcapkaaGreatHF
namespace Go.Proofs.YtfcdgfjpmcapkaaGreat
open Go.ChangeShapes Go.WideShapes Go.ChangeAt Go.RowKit
set_option linter.unusedVariables false

/-- items go down: what is so at the head of each round -/
structure SinkI (b : Nat) (sv : Value) (L : List It) (w : World) (M : List It) (wr : World) : Prop where
  keep : Keep (Off b sv) w wr
  hb : Hb wr b sv M
  perm : M.Perm L

theorem SinkI.below {b : Nat} {sv : Value} {L : List It} {w : World} {M : List It} {wr w2 : World} (h : SinkI b sv L w M wr) (hb : Below wr.heap.size wr w2) : SinkI b sv L w M w2 :=
  ⟨h.keep.trans (q := fun _ => True) (Keep.of_below hb) (fun _ _ _ => trivial), h.hb.below hb, h.perm⟩

set_option maxRecDepth 100000 in
set_option maxHeartbeats 1000000 in
theorem sink_any {w : World} {b : Nat} {sv : Value} {L : List It} (h : Hb w b sv L) (p : Nat) (hp : p ≤ 1000000) (hu : Ord L p) (hL : L.length ≤ 1000000) :
    Calls Tryz.prog 46 #[.pointer (some ⟨b, 0, none⟩), .int .i64 (p : Int)] w (RiseR b sv L w) := by
  have H := Lib.hid h
  have HU := Lib.hid hu
  clear h hu
  go_enter Tryz.func46, Tryz.ntmps46
  go_wp2_with fail
  go_step3
  go_wp2_with fail
  go_step3
  go_wp2_with fail
  go_loopw [4] (fun i wr => ∃ t : Nat, i = .int .i64 ((t : Int) - 1) ∧ t ≤ 1000000 ∧ ∃ M, SinkI b sv L w M wr ∧ Ord M t) (fun i _ => (intOf i + 1).toNat)
  case atStart => exact ⟨p, rfl, hp, L, ⟨Keep.refl _ _, H.out, List.Perm.refl _⟩, HU.out⟩
  case round =>
    obtain ⟨t, rfl, ht, M, hs, ho⟩ := hrel
    have HS := Lib.hid hs
    have HO := Lib.hid ho
    have hml : M.length ≤ 1000000 := by have := hs.perm.length_eq; omega
    have HML := Lib.hid hml
    clear hs ho hml
    by_cases h0 : t = 0
    · subst h0
      go_wp2_with fail
      go_end0
      exact ⟨rfl, HS.out.keep, M, HS.out.hb, HS.out.perm, HO.out⟩
    · obtain ⟨u, rfl⟩ : ∃ u, t = u + 1 := ⟨t - 1, by omega⟩
      have HD := Lib.hid (down_start HO.out)
      have e1 : ((u + 1 : Nat) : Int) - 1 = (u : Int) := by omega
      rw [e1]
      have hu : u ≤ 1000000 := by omega
      clear h0 e1 ht
      go_wp2_with fail
      refine (below_any HS.out.hb u hu HML.out).mono ?_
      rintro e w1 ⟨rfl, hb1⟩
      have HS1 := Lib.hid (HS.out.below hb1)
      clear hb1
      obtain ⟨c, hc⟩ : ∃ c, bel M u = c := ⟨_, rfl⟩
      have HC := Lib.hid hc
      rw [hc]
      clear hc
      go_wp2_with fail
      go_loopw [5, 6] (fun i j wr => ∃ q d : Nat, i = .int .i64 q ∧ j = .int .i64 d ∧ q ≤ 1000000 ∧ d ≤ 2000002 ∧ u ≤ q ∧ ∃ M, SinkI b sv L w M wr ∧ Down M u q ∧ bel M q = d) (fun i _ _ => 1000000 - (intOf i).toNat)
      case atStart => exact ⟨u, c, rfl, rfl, hu, by have := (bel_par M u).2.2; have := HC.out; omega, Nat.le_refl _, M, HS1.out, HD.out, HC.out⟩
      case round =>
        obtain ⟨q, d, rfl, rfl, hq, hd, huq, M2, hs2, hdn, hbe⟩ := hrel
        have HS2 := Lib.hid hs2
        have HDN := Lib.hid hdn
        have HBE := Lib.hid hbe
        have hml2 : M2.length ≤ 1000000 := by have := hs2.perm.length_eq; omega
        have hqd : q < d := by have := (bel_par M2 q).2.1; omega
        have hml3 : M2.length < 281474976710656 := by omega
        obtain ⟨A, cc, hsv, _⟩ := row_form hs2.hb.row
        have HSV := Lib.hid hsv
        obtain ⟨c0, c1, c2⟩ := hs2.hb.cells
        rw [hsv] at c1
        have HML2 := Lib.hid hml2
        clear hs2 hdn hbe hml2 hsv c0 c2
        by_cases hlt : d < M2.length
        · have ha := ahead_any HS2.out.hb d q hlt (by omega) HML2.out
          have hlti : (d : Int) < (M2.length : Int) := by omega
          by_cases h2 : le (g M2 q) (g M2 d) = true
          · rw [h2] at ha
            have H2 := Lib.hid h2
            clear h2
            go_wp2_with fail
            clear c1
            refine ha.mono ?_
            rintro e w2 ⟨rfl, hb2⟩
            have HS3 := Lib.hid (HS2.out.below hb2)
            clear ha hb2
            go_wp2_with fail
            go_roundw
            case rel => exact ⟨u, by go_num, by omega, M2, HS3.out, down_end HDN.out (.inr (by rw [HBE.out]; exact H2.out))⟩
            case measure => simp [intOf] <;> omega
          · have h2' : le (g M2 q) (g M2 d) = false := by simpa using h2
            rw [h2'] at ha
            have H2 := Lib.hid h2'
            clear h2 h2'
            go_wp2_with fail
            clear c1
            refine ha.mono ?_
            rintro e w2 ⟨rfl, hb2⟩
            have HS3 := Lib.hid (HS2.out.below hb2)
            clear ha hb2
            go_wp2_with fail
            refine (swap_any HS3.out.hb q d (by omega) hlt (by omega) HML2.out).mono ?_
            rintro e w3 ⟨rfl, hb3, hk3⟩
            have HS4 := Lib.hid (⟨HS3.out.keep.trans hk3 (fun _ _ h => h), hb3, (sw_perm (by omega) hlt).trans HS3.out.perm⟩ : SinkI b sv L w (sw M2 q d) w3)
            clear hb3 hk3
            have hd1 : d ≤ 1000000 := by have := HML2.out; omega
            go_wp2_with fail
            refine (below_any HS4.out.hb d hd1 (by rw [sw_len]; exact HML2.out)).mono ?_
            rintro e w4 ⟨rfl, hb4⟩
            have HS5 := Lib.hid (HS4.out.below hb4)
            clear hb4
            obtain ⟨d2, hd2⟩ : ∃ d2, bel (sw M2 q d) d = d2 := ⟨_, rfl⟩
            have HD2 := Lib.hid hd2
            rw [hd2]
            clear hd2
            go_wp2_with fail
            go_roundw
            case rel => exact ⟨d, d2, rfl, rfl, hd1, by have := (bel_par (sw M2 q d) d).2.2; have := HD2.out; omega, by omega, sw M2 q d, HS5.out, by have := down_step HDN.out huq (by rw [HBE.out]; exact hlt) (by rw [HBE.out]; exact H2.out); rw [HBE.out] at this; exact this, HD2.out⟩
            case measure => simp [intOf] <;> omega
        · have hlti : ¬ (d : Int) < (M2.length : Int) := by omega
          go_wp2_with fail
          go_roundw
          case rel => exact ⟨u, by go_num, by omega, M2, HS2.out, down_end HDN.out (.inl (by rw [HBE.out]; exact hlt))⟩
          case measure => simp [intOf] <;> omega
end Go.Proofs.YtfcdgfjpmcapkaaGreat
