/- Rows that are lent stay as they were. -/
import Derived.Test.YtepelfigcoohiaaV
import Derived.Lib.QuietBelow
namespace Go.Proofs.Ytepelfigcoohiaa
open Go.ChangeShapes Go.WideShapes Go.ChangeAt Go.RowKit Go.Maps Go.Shelf
set_option linter.unusedVariables false

set_option maxHeartbeats 2000000 in
theorem kept_any {w : World} {base g c : Nat} (l : List ByteArray) (v : Value) (hrow : w.ownsRow base 9 1 (.slice (some ⟨g, 0, none⟩) (l.length + 12) c) (l.length + 12) ((l ++ mks).map Value.string)) (hv : SR w v l) (hl : l.length ≤ 900) :
    Calls Try.prog 23 #[.slice (some ⟨g, 0, none⟩) l.length c, v] w fun e w' => e = .returned (.bool true) ∧ Below w.heap.size w w' := by
  have HV := Lib.hid hv
  obtain ⟨A, cl, rfl, hv2⟩ := hv
  have hcap := own_cap hrow
  have hgz := (hrow.lt g rfl).2
  have hcell : ∀ j (hj : j < (l ++ mks).length), w.cell? ⟨g, j, none⟩ = some (.string (l ++ mks)[j]) := by
    intro j hj
    have h := hrow.cells (g := g) rfl j (.string (l ++ mks)[j]) (by rw [List.getElem?_map, List.getElem?_eq_getElem hj]; rfl)
    have e : (⟨g, 0, none⟩ : Addr).add j = ⟨g, j, none⟩ := by unfold Addr.add; split <;> simp_all
    rwa [e] at h
  have HCELL := Lib.hid hcell
  obtain ⟨n, hn⟩ : ∃ n, l.length = n := ⟨_, rfl⟩
  have HN := Lib.hid hn
  rw [hn] at hcap hl
  obtain ⟨q, hq⟩ : ∃ q, q = n + 12 := ⟨_, rfl⟩
  have HQ := Lib.hid hq
  have hnat : ((n : Int) + 12).toNat = q := by omega
  have hci : (n : Int) + 12 ≤ (c : Int) := by omega
  have hqc : q ≤ c := by omega
  have hq9 : q ≤ 912 := by omega
  rw [hn]
  clear hn hq hcell hv2 hrow
  go_enter Try.func23, Try.ntmps23
  go_wp2_with fail
  clear hnat hci
  go_loopw [6] (fun i wr => ∃ k : Nat, k ≤ q ∧ i = .int .i64 k ∧ Below w.heap.size w wr) (fun i _ => q - (intOf i).toNat)
  case atStart => exact ⟨0, Nat.zero_le _, rfl, Below.refl _ _⟩
  case round =>
    obtain ⟨k, hk, rfl, hbe⟩ := hrel
    have HBE := Lib.hid hbe
    by_cases hlt : k < q
    · have hkl : k < (l ++ mks).length := by rw [List.length_append, mks_len, HN.out, ← HQ.out]; exact hlt
      have gk := (hbe.cell (p := ⟨g, k, none⟩) hgz).trans (HCELL.out k hkl)
      obtain ⟨t, ht⟩ : ∃ t, (l ++ mks)[k] = t := ⟨_, rfl⟩
      rw [ht] at gk
      have hk0 : (0 : Int) ≤ (k : Int) := by omega
      have hkq : (k : Int) < (q : Int) := by omega
      by_cases hkn : k < n
      · obtain ⟨A', c', hA, hr3⟩ := HV.out.below hbe
        injection hA with hA1 hA2 hA3
        subst hA1
        subst hA3
        obtain ⟨ad, rfl, hg3, hc3⟩ := hr3 (by rw [HN.out]; omega)
        have hck := hc3 k (by rw [HN.out]; exact hkn)
        have e : l[k]'(by rw [HN.out]; exact hkn) = t := by rw [← ht, List.getElem_append_left]
        rw [e] at hck
        have hd1 : decide (n ≤ k) = false := by simpa using hkn
        have hkni : (k : Int) < (n : Int) := by omega
        clear hc3 hr3 e ht hbe
        go_wp2_with fail
        go_quiet (fail)
        go_wp2_with fail
        go_roundw
        case rel => exact ⟨k + 1, by omega, by go_num, below_drewN HBE.out _⟩
        case measure => simp [intOf]; omega
      · obtain ⟨j, hj⟩ : ∃ j : Nat, j = k - n := ⟨_, rfl⟩
        have hsub : (k : Int) - (n : Int) = (j : Int) := by omega
        have hj12 : j < 12 := by have := HQ.out; omega
        have hjm : j < mks.length := by rw [mks_len]; exact hj12
        have hT : mT 1 (j : Int) = t := by
          rw [← mks_get j hjm, ← ht, List.getElem_append_right (by rw [HN.out]; omega)]
          congr 1
          rw [HN.out, hj]
        have HTT := Lib.hid hT
        have hd1 : decide (k < n) = false := by simpa using hkn
        have hd2 : decide (n ≤ k) = true := by simpa using hkn
        have hgr : g < wr.heap.size := by have := hbe.size; omega
        clear ht hT hj hkn hbe
        go_wp2_with fail
        have kg := cell_regrown gk
        have cM : ∀ d os, Calls Try.prog 33 #[.int .i64 1, .int .i64 j] (Sort.grow (redrawn wr d) os) fun e w'' => e = .returned (.string t) ∧ ∃ p : Regrown, w'' = Sort.grow (redrawn wr p.d) p.os := fun d os => Calls.regrown_of ((markText_any 1 j _ (by omega) (by omega) (by omega) (by omega)).mono fun e w' h => ⟨h.1.trans (by rw [HTT.out]), h.2⟩)
        refine wp_region_quiet_below (by kernel_rfl) (by kernel_rfl) ?_
        repeat (first | go_big_quiet_skip | (go_big_quiet_want; go_big_quiet_op; first | go_big_quiet_on | go_big_quiet_call (exact cM _ _)) | quiet_step (exact cM _ _))
        refine wpQuiet_nil ?_
        intro _ hw'
        obtain ⟨⟨dq, osq⟩, hw''⟩ := hw'
        subst hw''
        have hbq := below_regrown wr dq osq
        generalize Sort.grow (redrawn wr dq) osq = w3 at hbq ⊢
        have HBQ := Lib.hid hbq
        clear hbq cM kg
        go_wp2_with fail
        go_roundw
        case rel => exact ⟨k + 1, by omega, by go_num, HBE.out.trans (HBQ.out.mono HBE.out.size)⟩
        case measure => simp [intOf]; omega
    · obtain rfl : k = q := by omega
      clear hbe
      go_wp2_with fail
      go_ret
      exact ⟨rfl, HBE.out⟩
end Go.Proofs.Ytepelfigcoohiaa
