/- Walks of Copy, shrink: a heap made out of another one's items, a row moved to a smaller block. -/
import Derived.Test.YtfcdgfjpmcapkaaGreatHH
import Derived.Deep.Cut
namespace Go.Proofs.YtfcdgfjpmcapkaaGreat
open Go.ChangeShapes Go.WideShapes Go.ChangeAt Go.RowKit
set_option linter.unusedVariables false

theorem Hb.pr {w : World} {b : Nat} {sv : Value} {L : List It} (h : Hb w b sv L) : PR w sv L := PR.of_own h.row

set_option maxRecDepth 100000 in
theorem hb_new {w w1 : World} {b : Nat} {sv v : Value} {L : List It} (h : Hb w b sv L) (hb : Below w.heap.size w w1) (hrow : w1.ownsRow w.heap.size 74 2 v L.length (flat L)) : Hb (w1.setCell ⟨b, 1, none⟩ v) b v L := by
  have hblk := (hb.block b h.ltb).trans h.blk
  refine ⟨?_, hrow.1, ?_⟩
  · simp [World.setCell, Array.getElem?_modify, hblk]
  · rcases hrow.2 with h' | ⟨g', cap, cur, h', hb', hh, r⟩
    · exact .inl h'
    · refine .inr ⟨g', cap, cur, h', Nat.zero_le _, ?_, r⟩
      have hne : g' ≠ b := by have := h.ltb; omega
      rw [Below.heap_setCell _ _ _ _ hne]
      exact hh

def ShrinkR (b : Nat) (sv : Value) (L : List It) (w : World) (e : Ending) (w' : World) : Prop := e = .returned (.tuple #[]) ∧ ∃ sv1, Hb w' b sv1 L ∧ Loc w sv sv1 ∧ Keep (Off b sv) w w'

set_option maxRecDepth 100000 in
set_option maxHeartbeats 1000000 in
theorem shrink_any {w : World} {b : Nat} {sv : Value} {L : List It} (h : Hb w b sv L) (hl : L.length ≤ 1000000) : Calls Tryz.prog 70 #[.pointer (some ⟨b, 0, none⟩)] w (ShrinkR b sv L w) := by
  have H := Lib.hid h
  obtain ⟨c0, c1, c2⟩ := h.cells
  obtain ⟨A, c, rfl, hf, hnc, hcm⟩ := row_form h.row
  have hc0 : 0 ≤ (c : Int) / 4 := by omega
  have hcl : (c : Int) ≤ 9223372036854775807 := by unfold maxLen at hcm; omega
  have hq : (c : Int) / 4 = ((c / 4 : Nat) : Int) := by omega
  by_cases hsm : (L.length : Int) ≤ (c : Int) / 4
  · have hd : decide ((L.length : Int) ≤ (c : Int) / 4) = true := decide_eq_true hsm
    clear h hf hq hsm hcm
    go_enter Tryz.func70, Tryz.ntmps70
    go_wp2_with fail
    go_region
    have hd1 : Hb w.drew b (.slice A L.length c) L := ⟨H.out.blk, H.out.row.drew⟩
    have Hd := Lib.hid hd1
    clear hd1
    have hk1 : Keep (Off b (.slice A L.length c)) w w.drew := (Keep.refl _ _).drew
    have HK := Lib.hid hk1
    clear hk1
    have hz : w.heap.size = w.drew.heap.size := rfl
    have HZ := Lib.hid hz
    generalize w.drew = W at *
    clear c0 c1 c2 hd
    obtain ⟨c0, c1, c2⟩ := Hd.out.cells
    clear c0 hz
    go_wp2_with fail
    refine (clone_any Hd.out.pr hl).mono ?_
    rintro e w1 ⟨v1, rfl, hrow, hb1⟩
    obtain ⟨A1, cc1, rfl, _⟩ := row_form hrow
    have hB := hb_new Hd.out hb1 hrow
    have HB := Lib.hid hB
    have HB1 := Lib.hid hb1
    have HRW := Lib.hid hrow
    have d3 := (hb1.block b Hd.out.ltb).trans Hd.out.blk
    have d2 : w1.frozen? ⟨b, 1, none⟩ = false := by simp [World.frozen?, d3]
    have d1 : w1.cell? ⟨b, 1, none⟩ = some (.slice A L.length c) := by simp [World.cell?, d3]
    clear hB hb1 hrow d3
    go_wp2_with fail
    go_end0
    refine ⟨rfl, _, HB.out, fun g hg => .inr ?_, ?_⟩
    · have := (HRW.out.lt g hg).1
      rw [HZ.out]; exact this
    · exact HK.out.trans (q := Off b (.slice A L.length c)) (Keep.setCell (Keep.of_below HB1.out) _ _ fun k _ hp => hp.1) fun _ _ h => h
  · have hd : decide ((L.length : Int) ≤ (c : Int) / 4) = false := decide_eq_false hsm
    clear h hf hq hsm hcm
    go_enter Tryz.func70, Tryz.ntmps70
    go_wp2_with fail
    go_region
    have hd1 : Hb w.drew b (.slice A L.length c) L := ⟨H.out.blk, H.out.row.drew⟩
    have Hd := Lib.hid hd1
    clear hd1
    go_wp2_with fail
    go_end0
    exact ⟨rfl, _, Hd.out, fun g hg => .inl hg, (Keep.refl _ _).drew⟩

theorem flat_take (L : List It) (k : Nat) : flat (L.take k) = (flat L).take (k * 2) := by
  induction L generalizing k with
  | nil => simp [flat]
  | cons x l ih =>
    cases k with
    | zero => simp [flat]
    | succ k =>
      rw [List.take_succ_cons, show flat (x :: l) = .int .i64 x.1 :: .int .i64 x.2 :: flat l by simp [flat, enc], show flat (x :: l.take k) = .int .i64 x.1 :: .int .i64 x.2 :: flat (l.take k) by simp [flat, enc], ih, show (k + 1) * 2 = k * 2 + 1 + 1 by omega]
      simp

theorem own_take {w : World} {base gg n c : Nat} {t : TypeId} {L : List It} (h : w.ownsRow base t 2 (.slice (some ⟨gg, 0, none⟩) n c) n (flat L)) {k : Nat} (hk : k ≤ n) :
    w.ownsRow base t 2 (.slice (some ⟨gg, 0, none⟩) k c) k (flat (L.take k)) := by
  have hn := h.1
  rw [flat_len] at hn
  refine ⟨by rw [flat_len, List.length_take]; omega, ?_⟩
  rcases h.2 with ⟨h', _⟩ | ⟨g', cap, cur, h', hb, hg, h1, h2, h3, htake⟩
  · cases h'
  · injection h' with e1 e2 e3
    subst e3
    refine .inr ⟨g', c, cur, by rw [e1], hb, hg, by omega, h2, h3, ?_⟩
    rw [flat_take, ← htake, List.take_take]
    congr 1
    omega
end Go.Proofs.YtfcdgfjpmcapkaaGreat
