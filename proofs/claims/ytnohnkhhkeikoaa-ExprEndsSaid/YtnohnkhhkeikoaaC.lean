/- Walks: great, label, of; rows of expressions that are built. -/
import Derived.Test.YtnohnkhhkeikoaaB
namespace Go.Proofs.Ytnohnkhhkeikoaa
open Go.ChangeShapes Go.WideShapes Go.ChangeAt Go.RowKit
set_option linter.unusedVariables false

set_option maxHeartbeats 2000000 in
theorem great_any {B : Nat} {w : World} {v : Value} {xs : List X} (h : XR B w v xs) (hB : B ≤ w.heap.size) (A : Option Addr) (n c : Nat) :
    Calls Try.prog 7 #[.slice A n c, v] w fun e w' => e = .returned (.bool (decide (300 < gsum xs 0 ∨ 30 < n))) ∧ Gr w w' := by
  obtain ⟨A', c', rfl⟩ := h.form
  have HX := Lib.hid h
  clear h
  obtain ⟨m, hN⟩ : ∃ m, xs.length = m := ⟨_, rfl⟩
  rw [hN]
  rw [hN] at HX
  have HN := Lib.hid hN
  clear hN
  have fin : ∀ (q : Nat) (wr : World), gsum xs 0 = q → Gr w wr → 
    (decide ((300 : Int) < q) = true ∧ decide (300 < gsum xs 0 ∨ 30 < n) = true) ∨ (¬ (300 : Int) < q ∧ ((30 : Int) < n ∧ decide (300 < gsum xs 0 ∨ 30 < n) = true ∨ ¬ (30 : Int) < n ∧ decide (300 < gsum xs 0 ∨ 30 < n) = false)) := by
    intro q wr e hb
    rw [e]
    by_cases h1 : 300 < q
    · left; exact ⟨by simp; omega, by simp; omega⟩
    · right
      refine ⟨by omega, ?_⟩
      by_cases h2 : 30 < n
      · left; exact ⟨by omega, by simp; omega⟩
      · right; exact ⟨by omega, by simp; omega⟩
  have HF := Lib.hid fin
  clear fin
  go_enter Try.func7, Try.ntmps7
  go_wp2_with fail
  go_loopw [5, 6] (fun m' i wr => ∃ (k q : Nat), k ≤ m ∧ (k < q ∨ (k = 0 ∧ q = 0) ∨ k = q) ∧ m' = .int .i64 q ∧ i = .int .i64 k ∧ q ≤ 300 + (301 + 300 * 61) ∧ capS (szD 61) (xs.drop k) q = gsum xs 0 ∧ Gr w wr) (fun _ i _ => m - (intOf i).toNat)
  case atStart => exact ⟨0, 0, Nat.zero_le _, by omega, rfl, rfl, by omega, by simp [gsum], Gr.refl _⟩
  case round =>
    obtain ⟨k, q, hk, hkq, rfl, rfl, hq, hs, hb⟩ := hrel
    have HS := Lib.hid hs
    have HB := Lib.hid hb
    clear hs hb
    by_cases hlt : k < m
    · by_cases hq3 : q ≤ 300
      · have e1 : k < xs.length := by have := HN.out; omega
        have hBw : Below B w wr := HB.out.below.mono hB
        obtain ⟨ad, k3, f1, _, q0, q1, q2, q3⟩ := XR.at3 (HX.out.bel hBw) e1
        subst f1
        have hxv : XV B wr (.agg #[.int .i64 xs[k].kind, .string xs[k].lab, k3]) xs[k] := ⟨k3, rfl, q3⟩
        have HXV := Lib.hid hxv
        have hBr : Hid (B ≤ wr.heap.size) := Lib.hid (Nat.le_trans hB hBw.size)
        clear q3 hBw hxv
        have hsd := szD_le 61 xs[k]
        have hsp := szD_pos 61 xs[k]
        go_wp2_with (go_at_call 31; refine (size_any 61 _ _ _ _ HXV.out hBr.out (by omega)).mono ?_; rintro e w1 ⟨rfl, hg⟩; have HG := Lib.hid (HB.out.trans hg); clear hg)
        go_roundw
        case rel => exact ⟨k + 1, q + szD 61 xs[k], by omega, by omega, by go_num, by go_num, by omega, by rw [← capS_step e1 hq3]; exact HS.out, HG.out⟩
        case measure => simp [intOf]; omega
      · have e := HS.out
        rw [capS_stop _ hq3] at e
        rcases HF.out q wr e.symm HB.out with ⟨h1, h2⟩ | ⟨h1, ⟨h2, h3⟩ | ⟨h2, h3⟩⟩
        · have h1' : (300 : Int) < q := by simpa using h1
          go_wp2_with fail
          go_ret
          exact ⟨ret_bool h2.symm, HB.out⟩
        all_goals omega
    · have : k = m := by omega
      subst this
      have e := HS.out
      rw [List.drop_of_length_le (by have := HN.out; omega)] at e
      rcases HF.out q wr (by rw [← e]; rfl) HB.out with ⟨h1, h2⟩ | ⟨h1, ⟨h2, h3⟩ | ⟨h2, h3⟩⟩
      · have h1' : (300 : Int) < q := by simpa using h1
        go_wp2_with fail
        go_ret
        exact ⟨ret_bool h2.symm, HB.out⟩
      · go_wp2_with fail
        go_ret
        refine ⟨ret_bool ?_, HB.out⟩
        rw [h3]
        try simp
        try omega
      · go_wp2_with fail
        go_ret
        refine ⟨ret_bool ?_, HB.out⟩
        rw [h3]
        simp
        omega

theorem new3 (w : World) (a b c : Value) (t : TypeId) : (w.alloc (.cells #[a, b, c] t)).cell? ⟨w.heap.size, 0, none⟩ = some a ∧ (w.alloc (.cells #[a, b, c] t)).cell? ⟨w.heap.size, 1, none⟩ = some b ∧ (w.alloc (.cells #[a, b, c] t)).cell? ⟨w.heap.size, 2, none⟩ = some c := by
  have h := World.alloc_heap_new w (.cells #[a, b, c] t)
  refine ⟨?_, ?_, ?_⟩ <;> (simp only [World.cell?]; rw [h]; rfl)

theorem label_any (s : ByteArray) (w : World) : Calls Try.prog 28 #[.string s] w fun e w' => e = .returned (.agg #[.int .i64 1, .string s, .slice none 0 0]) ∧ Gr w w' := by
  go_enter Try.func28, Try.ntmps28
  go_wp2_with fail
  obtain ⟨n0, n1, n2⟩ := new3 w (.int .i64 1) (.string s) (.slice none 0 0) 25
  exact bodyPost_ret (v := .agg #[.int .i64 1, .string s, .slice none 0 0]) (by simp [results, Try.results28, go_sem, n0, n1, n2]) rfl ⟨rfl, (Gr.refl _).alloc _⟩

theorem of_any (k : Int) (A : Option Addr) (n c : Nat) (w : World) : Calls Try.prog 29 #[.int .i64 k, .slice A n c] w fun e w' => e = .returned (.agg #[.int .i64 k, .string ⟨#[]⟩, .slice A n c]) ∧ Gr w w' := by
  go_enter Try.func29, Try.ntmps29
  go_wp2_with fail
  obtain ⟨n0, n1, n2⟩ := new3 w (.int .i64 k) (.string ⟨#[]⟩) (.slice A n c) 25
  exact bodyPost_ret (v := .agg #[.int .i64 k, .string ⟨#[]⟩, .slice A n c]) (by simp [results, Try.results29, go_sem, n0, n1, n2]) rfl ⟨rfl, (Gr.refl _).alloc _⟩
end Go.Proofs.Ytnohnkhhkeikoaa
