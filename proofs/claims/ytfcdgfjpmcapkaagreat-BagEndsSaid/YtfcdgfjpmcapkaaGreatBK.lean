/- Walks: ends of entries that are gone are struck from a row. -/
import Derived.Test.YtfcdgfjpmcapkaaGreatBJ
import Derived.Lib.SliceRun
import Derived.Laws.CopyRow
namespace Go.Proofs.YtfcdgfjpmcapkaaGreat
open Go.ChangeShapes Go.WideShapes Go.ChangeAt Go.RowKit Go.Maps
set_option linter.unusedVariables false

variable {w : World} {b mr mp : Nat} {Ks : List (ByteArray × Nat)} {E : List En} {n hb : Nat}

theorem own_below {w w' : World} {base e sz n : Nat} {v : Value} {xs : List Value} (h : w.ownsRow base e sz v n xs) (hb : Below w.heap.size w w') : w'.ownsRow base e sz v n xs := own_keep h (p := fun _ => True) (Keep.of_below hb) fun _ _ => trivial
def IdxR (E : List En) (L : List It) (w : World) (e : Ending) (w' : World) : Prop :=
  ∃ r : Int, e = .returned (.int .i64 r) ∧ Below w.heap.size w w' ∧ ((r = -1 ∧ ∀ j, j < L.length → live E (g L j) = true) ∨ ∃ i : Nat, i < L.length ∧ r = (i : Int) ∧ live E (g L i) = false ∧ ∀ j, j < i → live E (g L j) = true)

set_option maxRecDepth 100000 in
set_option maxHeartbeats 1000000 in
theorem index_bag (h : Ix w b mr mp Ks E n hb) {base : Nat} {v : Value} {L : List It} (hr : w.ownsRow base 74 2 v L.length (flat L)) (hw : ∀ j, j < L.length → (Lit.int .i64 (g L j).2).wf = true) (hl : L.length ≤ 1000000) :
    Calls Tryz.prog 71 #[v, .func (.func 50) #[.pointer (some ⟨b, 0, none⟩)] #[]] w (IdxR E L w) := by
  have H := Lib.hid h
  obtain ⟨m, hm⟩ : ∃ m, L.length = m := ⟨_, rfl⟩
  have HL := Lib.hid hm
  rw [hm] at hr hl
  have HR := Lib.hid hr
  have HW := Lib.hid hw
  obtain ⟨A, c, rfl, hf, _⟩ := row_form hr
  clear h hr hm hw
  go_enter Tryz.func71, Tryz.ntmps71
  go_wp2_with fail
  go_loopw [8] (fun p wr => ∃ k : Nat, k ≤ m ∧ p = .int .i64 k ∧ (∀ j, j < k → live E (g L j) = true) ∧ Below w.heap.size w wr) (fun p _ => m - (intOf p).toNat)
  case atStart => exact ⟨0, Nat.zero_le _, rfl, fun j hj => absurd hj (Nat.not_lt_zero _), Below.refl _ _⟩
  case round =>
    obtain ⟨k, hk, rfl, hbef, hB⟩ := hrel
    have HBEF := Lib.hid hbef
    have HB := Lib.hid hB
    clear hbef hB
    by_cases hlt : k < m
    · obtain ⟨gg, rfl, _, hgl⟩ := hf (by omega)
      obtain ⟨x1, x2⟩ := row_at (own_below HR.out HB.out) (k := k) (by rw [HL.out]; exact hlt)
      have hcall := gone_bag (H.out.below HB.out) (g L k) (HW.out k (by rw [HL.out]; exact hlt))
      obtain ⟨x, hx⟩ : ∃ x, g L k = x := ⟨_, rfl⟩
      rw [hx] at x1 x2 hcall
      have HX := Lib.hid hx
      cases hlv : live E x with
      | true =>
        rw [hlv] at hcall
        have HC := Lib.hid hcall
        have HLV := Lib.hid hlv
        clear hcall hlv hx
        go_wp2_with (go_at_call 50; refine HC.out.mono ?_; simp only [Bool.not_true]; rintro e w2 ⟨rfl, hb2⟩; have HB2 := Lib.hid hb2; clear hb2)
        go_roundw
        case rel =>
          refine ⟨k + 1, by omega, by go_num, fun j hj => ?_, HB.out.trans (HB2.out.mono HB.out.size)⟩
          by_cases hjk : j = k
          · rw [hjk, HX.out]; exact HLV.out
          · exact HBEF.out j (by omega)
        case measure => simp [intOf] <;> omega
      | false =>
        rw [hlv] at hcall
        have HC := Lib.hid hcall
        have HLV := Lib.hid hlv
        clear hcall hlv hx
        go_wp2_with (go_at_call 50; refine HC.out.mono ?_; simp only [Bool.not_false]; rintro e w2 ⟨rfl, hb2⟩; have HB2 := Lib.hid hb2; clear hb2)
        go_ret
        exact ⟨_, rfl, HB.out.trans (HB2.out.mono HB.out.size), .inr ⟨k, by rw [HL.out]; exact hlt, rfl, by rw [HX.out]; exact HLV.out, HBEF.out⟩⟩
    · obtain rfl : m = k := by omega
      go_wp2_with fail
      go_ret
      exact ⟨_, rfl, HB.out, .inl ⟨rfl, fun j hj => HBEF.out j (by rw [HL.out] at hj; exact hj)⟩⟩
end Go.Proofs.YtfcdgfjpmcapkaaGreat
