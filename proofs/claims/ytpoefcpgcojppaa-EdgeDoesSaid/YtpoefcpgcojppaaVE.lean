/- Walks of what tells whether a value is right. -/
import Derived.Test.YtpoefcpgcojppaaE
namespace Go.Proofs.Ytpoefcpgcojppaa
open Go.ChangeShapes Go.WideShapes Go.ChangeAt Go.RowKit
set_option linter.unusedVariables false

def plainC (c : UInt8) : Bool := decide (32 ≤ c.toNat) && decide (c.toNat ≤ 126) && decide (c.toNat ≠ 34) && decide (c.toNat ≠ 92)
def isT (s : ByteArray) : Bool := decide (s.size ≤ 40) && s.data.toList.all plainC
def rightV (v : Vt) : Bool := (decide (v.1 = 1) && (decide (-1099511627776 ≤ v.2.1) && decide (v.2.1 ≤ 1099511627776) && decide (v.2.2 = ⟨#[]⟩))) || (decide (v.1 = 2) && (decide (v.2.1 = 0) && isT v.2.2))

def plI (r : Int) : Bool := decide (32 ≤ r ∧ r ≤ 126 ∧ r ≠ 34 ∧ r ≠ 92)
theorem plI_eq (c : UInt8) : plainC c = plI (c.toNat : Int) := by
  unfold plainC plI
  rw [Bool.eq_iff_iff]
  simp
  omega

theorem isPlain_any (r : Int) (w : World) : Calls Try.prog 93 #[.int .u8 r] w fun e w' => e = .returned (.bool (plI r)) ∧ w = w' := by
  have h : r < 32 ∨ (32 ≤ r ∧ 126 < r) ∨ (32 ≤ r ∧ r ≤ 126) := by omega
  rcases h with h | ⟨h1, h2⟩ | ⟨h1, h2⟩
  · have h3 : r ≠ 34 := by omega
    have h4 : r ≠ 92 := by omega
    go_enter Try.func93, Try.ntmps93
    go_wp2
    go_ret
    exact ⟨ret_bool (by simp [plI]; try omega), rfl⟩
  · go_enter Try.func93, Try.ntmps93
    go_wp2
    go_ret
    exact ⟨ret_bool (by simp [plI]; try omega), rfl⟩
  · by_cases h3 : r = 34
    · subst h3
      go_enter Try.func93, Try.ntmps93
      go_wp2
      go_ret
      exact ⟨ret_bool (by simp [plI]), rfl⟩
    · have h3' : (r != 34) = true := by simpa using h3
      by_cases h4 : r = 92
      · subst h4
        go_enter Try.func93, Try.ntmps93
        go_wp2
        go_ret
        exact ⟨ret_bool (by simp [plI]), rfl⟩
      · have h4' : (r != 92) = true := by simpa using h4
        have HE := Lib.hid (show plI r = true by unfold plI; rw [decide_eq_true_iff]; omega)
        clear h3 h4
        go_enter Try.func93, Try.ntmps93
        go_wp2
        go_ret
        exact ⟨ret_bool HE.out.symm, rfl⟩

theorem all_succ {l : List UInt8} {k : Nat} (h : (l.take k).all plainC = true) (hk : k < l.length) (hs : plainC l[k] = true) : (l.take (k + 1)).all plainC = true := by
  rw [List.take_succ_eq_append_getElem hk, List.all_append, h]
  simpa using hs
theorem all_not {l : List UInt8} {k : Nat} (hk : k < l.length) (hs : plainC l[k] = false) : l.all plainC = false := by
  rw [List.all_eq_false]
  exact ⟨l[k], List.getElem_mem hk, by rw [hs]; decide⟩

theorem isText_any (s : ByteArray) (w : World) (hm : s.size ≤ 281474976710656) : Calls Try.prog 88 #[.string s] w fun e w' => e = .returned (.bool (isT s)) ∧ w = w' := by
  have hsz : s.data.toList.length = s.size := Array.length_toList
  have HSZ := Lib.hid hsz
  clear hsz
  by_cases h40 : s.size ≤ 40
  · have h40' : decide ((40 : Int) < (s.size : Int)) = false := by rw [decide_eq_false_iff_not]; omega
    go_enter Try.func88, Try.ntmps88
    go_wp2
    go_loop [9] (fun i => ∃ k : Nat, k ≤ s.size ∧ i = .int .i64 k ∧ (s.data.toList.take k).all plainC = true) (fun i => s.size - (Lib.intOf i).toNat)
    case atStart => exact ⟨0, Nat.zero_le _, rfl, rfl⟩
    case round =>
      obtain ⟨k, hk, rfl, hall⟩ := hrel
      have HALL := Lib.hid hall
      clear hall
      by_cases hlt : k < s.size
      · have hkl : k < s.data.toList.length := by rw [HSZ.out]; exact hlt
        have hb : s.data.toList[k] = s[k] := rfl
        have HB := Lib.hid hb
        clear hb
        cases hsg : plI (s[k].toNat : Int) with
        | true =>
          have HS := Lib.hid hsg
          go_wp2_with (go_at_call 93; refine (isPlain_any _ _).mono ?_; rintro e w' ⟨rfl, rfl⟩)
          go_round
          case rel => exact ⟨k + 1, by omega, by go_num, all_succ HALL.out hkl (by rw [HB.out, plI_eq]; exact HS.out)⟩
          case measure => simp [Lib.intOf]; omega
        | false =>
          have HS := Lib.hid hsg
          go_wp2_with (go_at_call 93; refine (isPlain_any _ _).mono ?_; rintro e w' ⟨rfl, rfl⟩)
          go_ret
          exact ⟨ret_bool (by unfold isT; rw [all_not hkl (by rw [HB.out, plI_eq]; exact HS.out), Bool.and_false]), rfl⟩
      · obtain rfl : k = s.size := by omega
        have hv : isT s = true := by
          have := HALL.out
          rw [List.take_of_length_le (by rw [HSZ.out]; exact Nat.le_refl _)] at this
          unfold isT
          rw [this, decide_eq_true h40]; rfl
        have HV := Lib.hid hv
        clear hv
        go_wp2
        go_ret
        exact ⟨ret_bool HV.out.symm, rfl⟩
  · have h40' : decide ((40 : Int) < (s.size : Int)) = true := by rw [decide_eq_true_iff]; omega
    have HV := Lib.hid (show isT s = false by unfold isT; rw [decide_eq_false h40]; rfl)
    go_enter Try.func88, Try.ntmps88
    go_wp2
    go_ret
    exact ⟨ret_bool HV.out.symm, rfl⟩
end Go.Proofs.Ytpoefcpgcojppaa
