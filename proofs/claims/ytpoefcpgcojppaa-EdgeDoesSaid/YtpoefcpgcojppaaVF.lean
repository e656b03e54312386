/- Walks of what tells whether a value is right: the program's, the document's. -/
import Derived.Test.YtpoefcpgcojppaaVE
namespace Go.Proofs.Ytpoefcpgcojppaa
open Go.ChangeShapes Go.WideShapes Go.ChangeAt Go.RowKit
set_option linter.unusedVariables false

theorem em_iff (t : ByteArray) : t.toList.isEmpty = decide (t = ⟨#[]⟩) := by
  rw [Bool.eq_iff_iff, List.isEmpty_iff, decide_eq_true_eq, ByteArray.toList_eq]
  constructor
  · intro h
    exact data_inj h
  · rintro rfl
    rfl
def RightR (v : Vt) (w : World) (e : Ending) (w' : World) : Prop := e = .returned (.bool (rightV v)) ∧ Gr w w'

theorem right_any (v : Vt) (w : World) (hm : v.2.2.size ≤ 281474976710656) : Calls Try.prog 73 #[.agg #[.int .i64 v.1, .int .i64 v.2.1, .string v.2.2]] w (RightR v w) := by
  obtain ⟨k, n, t⟩ := v
  simp only at hm ⊢
  by_cases h1 : k = 1
  · subst h1
    have hr : n < -1099511627776 ∨ (-1099511627776 ≤ n ∧ 1099511627776 < n) ∨ (-1099511627776 ≤ n ∧ n ≤ 1099511627776) := by omega
    rcases hr with hr | ⟨hr, hr2⟩ | ⟨hr, hr2⟩
    · have HE := Lib.hid (show rightV (1, n, t) = false by simp [rightV]; omega)
      go_enter Try.func73, Try.ntmps73
      go_wp2_with fail
      go_ret
      exact ⟨ret_bool HE.out.symm, (Gr.refl w).alloc _⟩
    · have HE := Lib.hid (show rightV (1, n, t) = false by simp [rightV]; omega)
      go_enter Try.func73, Try.ntmps73
      go_wp2_with fail
      go_ret
      exact ⟨ret_bool HE.out.symm, (Gr.refl w).alloc _⟩
    · have HE := Lib.hid (show rightV (1, n, t) = t.toList.isEmpty by rw [em_iff]; simp [rightV, hr, hr2])
      go_enter Try.func73, Try.ntmps73
      go_wp2_with fail
      go_ret
      exact ⟨ret_bool HE.out.symm, (Gr.refl w).alloc _⟩
  · have h1' : (k == 1) = false := by simpa using h1
    by_cases h2 : k = 2
    · subst h2
      by_cases h3 : n = 0
      · subst h3
        have HE := Lib.hid (show rightV (2, 0, t) = isT t by simp [rightV])
        clear h1
        go_enter Try.func73, Try.ntmps73
        go_wp2_with (go_at_call 88; refine (isText_any t _ hm).mono ?_; rintro e w' ⟨rfl, rfl⟩)
        go_ret
        exact ⟨ret_bool HE.out.symm, (Gr.refl w).alloc _⟩
      · have HE := Lib.hid (show rightV (2, n, t) = false by simp [rightV, h3])
        have h3' : (n == 0) = false := by simpa using h3
        clear h1 h3
        go_enter Try.func73, Try.ntmps73
        go_wp2_with fail
        go_ret
        exact ⟨ret_bool HE.out.symm, (Gr.refl w).alloc _⟩
    · have HE := Lib.hid (show rightV (k, n, t) = false by simp [rightV, h1, h2])
      have h2' : (k == 2) = false := by simpa using h2
      clear h1 h2
      go_enter Try.func73, Try.ntmps73
      go_wp2_with fail
      go_ret
      exact ⟨ret_bool HE.out.symm, (Gr.refl w).alloc _⟩
set_option maxHeartbeats 2000000 in
theorem rRight_any (v : Vt) (w : World) (hm : v.2.2.size ≤ 281474976710656) : Calls Try.prog 49 #[.agg #[.int .i64 v.1, .int .i64 v.2.1, .string v.2.2]] w (RightR v w) := by
  obtain ⟨k, n, t⟩ := v
  simp only at hm ⊢
  by_cases h1 : k = 1
  · subst h1
    have hr : n < -1099511627776 ∨ (-1099511627776 ≤ n ∧ 1099511627776 < n) ∨ (-1099511627776 ≤ n ∧ n ≤ 1099511627776) := by omega
    rcases hr with hr | ⟨hr, hr2⟩ | ⟨hr, hr2⟩
    · have HE := Lib.hid (show rightV (1, n, t) = false by simp [rightV]; omega)
      go_enter Try.func49, Try.ntmps49
      go_wp2_with fail
      go_ret
      exact ⟨ret_bool HE.out.symm, (Gr.refl w).alloc _⟩
    · have HE := Lib.hid (show rightV (1, n, t) = false by simp [rightV]; omega)
      go_enter Try.func49, Try.ntmps49
      go_wp2_with fail
      go_ret
      exact ⟨ret_bool HE.out.symm, (Gr.refl w).alloc _⟩
    · have HE := Lib.hid (show rightV (1, n, t) = t.toList.isEmpty by rw [em_iff]; simp [rightV, hr, hr2])
      go_enter Try.func49, Try.ntmps49
      go_wp2_with fail
      go_ret
      exact ⟨ret_bool HE.out.symm, (Gr.refl w).alloc _⟩
  · have h1' : (k == 1) = false := by simpa using h1
    have hsz : t.data.toList.length = t.size := Array.length_toList
    have HSZ := Lib.hid hsz
    have HK := Lib.hid h1
    clear hsz h1
    go_enter Try.func49, Try.ntmps49
    go_wp2_with fail
    go_loop [3] (fun i => ∃ p : Nat, p ≤ t.size ∧ i = .int .i64 p ∧ (t.data.toList.take p).all plainC = true) (fun i => t.size - (Lib.intOf i).toNat)
    case atStart => exact ⟨0, Nat.zero_le _, rfl, rfl⟩
    case round =>
      obtain ⟨p, hp, rfl, hall⟩ := hrel
      have HALL := Lib.hid hall
      clear hall
      by_cases hlt : p < t.size
      · have hkl : p < t.data.toList.length := by rw [HSZ.out]; exact hlt
        have hb : t.data.toList[p] = t[p] := rfl
        have HB := Lib.hid hb
        clear hb
        have hpl := plI_eq (t[p])
        have hr : ((t[p]).toNat : Int) < 32 ∨ (32 ≤ ((t[p]).toNat : Int) ∧ 126 < ((t[p]).toNat : Int)) ∨ (32 ≤ ((t[p]).toNat : Int) ∧ ((t[p]).toNat : Int) ≤ 126) := by omega
        have HPL := Lib.hid hpl
        clear hpl
        have key : plI ((t[p]).toNat : Int) = false → rightV (k, n, t) = false := fun h => by
          have e : isT t = false := by unfold isT; rw [all_not hkl (by rw [HB.out, HPL.out]; exact h), Bool.and_false]
          simp [rightV, HK.out, e]
        have KEY := Lib.hid key
        clear key
        rcases hr with hr | ⟨hr, hr2⟩ | ⟨hr, hr2⟩
        · go_wp2_with fail
          go_ret
          exact ⟨ret_bool (KEY.out (by simp [plI]; omega)).symm, (Gr.refl w).alloc _⟩
        · go_wp2_with fail
          go_ret
          exact ⟨ret_bool (KEY.out (by simp [plI]; omega)).symm, (Gr.refl w).alloc _⟩
        · by_cases h34 : ((t[p]).toNat : Int) = 34
          · have h34' : (((t[p]).toNat : Int) == 34) = true := by simpa using h34
            have H34 := Lib.hid h34
            clear h34
            go_wp2_with fail
            go_ret
            exact ⟨ret_bool (KEY.out (by simp [plI]; have := H34.out; omega)).symm, (Gr.refl w).alloc _⟩
          · have h34' : (((t[p]).toNat : Int) == 34) = false := by simpa using h34
            by_cases h92 : ((t[p]).toNat : Int) = 92
            · have h92' : (((t[p]).toNat : Int) == 92) = true := by simpa using h92
              have H92 := Lib.hid h92
              clear h92 h34
              go_wp2_with fail
              go_ret
              exact ⟨ret_bool (KEY.out (by simp [plI]; have := H92.out; omega)).symm, (Gr.refl w).alloc _⟩
            · have h92' : (((t[p]).toNat : Int) == 92) = false := by simpa using h92
              have HG := Lib.hid (show plI ((t[p]).toNat : Int) = true by unfold plI; rw [decide_eq_true_iff]; omega)
              clear h34 h92
              go_wp2_with fail
              go_round
              case rel => exact ⟨p + 1, by omega, by go_num, all_succ HALL.out hkl (by rw [HB.out, HPL.out]; exact HG.out)⟩
              case measure => simp [Lib.intOf]; omega
      · obtain rfl : p = t.size := by omega
        have hall : t.data.toList.all plainC = true := by
          have := HALL.out
          rwa [List.take_of_length_le (by rw [HSZ.out]; exact Nat.le_refl _)] at this
        by_cases h2 : k = 2
        · subst h2
          by_cases h3 : n = 0
          · subst h3
            have HE := Lib.hid (show rightV (2, 0, t) = decide (t.size ≤ 40) by simp [rightV, isT, hall])
            have hs : t.size ≤ 40 ∨ 40 < t.size := by omega
            clear hall
            rcases hs with hs | hs
            all_goals
              go_wp2_with fail
              go_ret
              exact ⟨ret_bool (by rw [HE.out, Bool.eq_iff_iff]; simp; try omega), (Gr.refl w).alloc _⟩
          · have HE := Lib.hid (show rightV (2, n, t) = false by simp [rightV, h3])
            have h3' : (n == 0) = false := by simpa using h3
            clear h3 hall
            go_wp2_with fail
            go_ret
            exact ⟨ret_bool HE.out.symm, (Gr.refl w).alloc _⟩
        · have HE := Lib.hid (show rightV (k, n, t) = false by simp [rightV, HK.out, h2])
          have h2' : (k == 2) = false := by simpa using h2
          clear h2 hall
          go_wp2_with fail
          go_ret
          exact ⟨ret_bool HE.out.symm, (Gr.refl w).alloc _⟩
end Go.Proofs.Ytpoefcpgcojppaa
