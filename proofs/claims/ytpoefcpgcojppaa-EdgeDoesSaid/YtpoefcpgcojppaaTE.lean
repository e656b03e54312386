/- Walk of what counts edges: the count told. -/
import Derived.Test.YtpoefcpgcojppaaPQ
namespace Go.Proofs.Ytpoefcpgcojppaa
open Go.ChangeShapes Go.WideShapes Go.ChangeAt Go.RowKit
set_option linter.unusedVariables false

def sumP (l : List Ev) : Nat := (l.map fun p => p.1.props.length).sum
theorem sumP_take {l : List Ev} {k : Nat} (h : k < l.length) : sumP (l.take (k + 1)) = sumP (l.take k) + l[k].1.props.length := by
  unfold sumP
  rw [List.take_succ_eq_append_getElem h, List.map_append, List.sum_append]
  simp
def SizS (l : List Ev) (w : World) (x : Ending) (w' : World) : Prop := ∃ n : Int, x = .returned (.int .i64 n) ∧ (n ≤ 2000 → n = l.length + sumP l) ∧ 0 ≤ n ∧ n ≤ 562949953421312 ∧ Gr w w'

set_option maxHeartbeats 2000000 in
theorem size_sum {w : World} {v : Value} {l : List Ev} (h : ER w v l) (hl : l.length ≤ 281474976710656) (hp : ∀ p ∈ l, p.1.props.length ≤ 281474976710656) : Calls Try.prog 9 #[v] w (SizS l w) := by
  unfold SizS
  have H := Lib.hid h
  have HP := Lib.hid hp
  obtain ⟨A, c, rfl⟩ := h.form
  clear h hp
  obtain ⟨n, hN⟩ : ∃ n, l.length = n := ⟨_, rfl⟩
  have HN := Lib.hid hN
  rw [hN] at H hl ⊢
  clear hN
  go_enter Try.func9, Try.ntmps9
  go_wp2_with fail
  go_loopw [3, 4] (fun s i wr => ∃ (k : Nat) (m : Int), k ≤ n ∧ i = .int .i64 k ∧ s = .int .i64 m ∧ m = n + sumP (l.take k) ∧ m ≤ 281474976712656 ∧ Gr w wr) (fun _ i _ => n - (Lib.intOf i).toNat)
  case atStart => exact ⟨0, n, Nat.zero_le _, rfl, rfl, by simp [sumP], by omega, Gr.refl _⟩
  case round =>
    obtain ⟨k, m, hk, rfl, rfl, h1, h2, hb⟩ := hrel
    have HB := Lib.hid hb
    have H1 := Lib.hid h1
    have hm0 : (0 : Int) ≤ m := by omega
    clear hb h1
    by_cases hlt : k < n
    · by_cases hm : m ≤ 2000
      · have e1 : k < l.length := by have := HN.out; omega
        obtain ⟨ad, f1, _, _, _, _, _, q4⟩ := ER.at4 (H.out.below HB.out.below) e1
        subst f1
        obtain ⟨B, d, hq⟩ := (H.out.each _ (List.getElem_mem e1)).form
        have hle := HP.out _ (List.getElem_mem e1)
        have HST := Lib.hid (sumP_take e1)
        rw [hq] at q4
        generalize l[k].1.props.length = pn at *
        clear hq
        go_wp2_with fail
        go_roundw
        case rel => exact ⟨k + 1, m + pn, by omega, by go_num, by go_num, by rw [HST.out, H1.out]; omega, by omega, HB.out⟩
        case measure => simp [Lib.intOf]; omega
      · go_wp2_with fail
        go_ret
        exact ⟨m, rfl, fun h => by omega, hm0, by omega, HB.out⟩
    · obtain rfl : k = n := by omega
      have HF := Lib.hid (show m = k + sumP l by
        have := H1.out
        rwa [List.take_of_length_le (by rw [HN.out]; exact Nat.le_refl _)] at this)
      go_wp2_with fail
      go_ret
      exact ⟨m, rfl, fun _ => HF.out, hm0, by omega, HB.out⟩
end Go.Proofs.Ytpoefcpgcojppaa
