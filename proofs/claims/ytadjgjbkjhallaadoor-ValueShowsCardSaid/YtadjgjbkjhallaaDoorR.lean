/- Walks of the document's parsing. -/
import Derived.Test.YtadjgjbkjhallaaDoorM
import Derived.Laws.DeepStrings4
import Derived.Deep.Cut
namespace Go.Proofs.YtadjgjbkjhallaaDoor
open Go.ChangeShapes Go.WideShapes Go.ChangeAt Go.RowKit
set_option linter.unusedVariables false

def NumR (s : ByteArray) (w : World) (e : Ending) (w' : World) : Prop := e = .returned (.tuple #[.int .i64 ((refNum s).getD 0), .bool (refNum s).isSome]) ∧ w = w'

theorem toL_at {d : ByteArray} {k : Nat} (h : k < d.size) : d.data.toList[k]? = some d[k] := by
  have h1 : k < d.data.size := h
  rw [Array.getElem?_toList, Array.getElem?_eq_getElem h1]
  rfl
theorem len_eq (d : ByteArray) : d.data.toList.length = d.size := Array.length_toList
theorem ext_list (s : ByteArray) : (s.extract 1 s.size).data.toList = s.data.toList.drop 1 := by
  rw [ByteArray.data_extract, Array.toList_extract, List.extract_eq_take_drop]
  apply List.take_of_length_le
  rw [List.length_drop, len_eq]
  exact Nat.le_refl _
theorem num_bound {l : List UInt8} {k m : Nat} (h : Lib.decFrom 0 (l.take k) = some m) (hk : k ≤ 12) : m < 1000000000000 := by
  have h1 := Lib.decFrom_lt _ 0 m h
  have h2 : (l.take k).length ≤ 12 := by rw [List.length_take]; omega
  have h3 := Nat.pow_le_pow_right (n := 10) (by decide) h2
  have e : (10 : Nat) ^ 12 = 1000000000000 := by decide
  omega
theorem num_bound13 {l : List UInt8} {m : Nat} (h : Lib.decFrom 0 l = some m) (hk : l.length ≤ 13) : m < 10000000000000 := by
  have h1 := Lib.decFrom_lt _ 0 m h
  have h3 := Nat.pow_le_pow_right (n := 10) (by decide) hk
  have e : (10 : Nat) ^ 13 = 10000000000000 := by decide
  omega
theorem digit_no {c : UInt8} (h : ¬ (48 ≤ c.toNat ∧ c.toNat ≤ 57)) : Lib.digitVal c = none := by unfold Lib.digitVal; rw [if_neg h]
theorem digit_yes {c : UInt8} (h : 48 ≤ c.toNat ∧ c.toNat ≤ 57) : Lib.digitVal c = some (c.toNat - 48) := by unfold Lib.digitVal; rw [if_pos h]
theorem dec_none {l : List UInt8} {k : Nat} {c : UInt8} (hk : l[k]? = some c) (h : Lib.digitVal c = none) : Lib.decFrom 0 l = none := by
  cases hd : Lib.decFrom 0 l with
  | none => rfl
  | some n =>
    obtain ⟨d, e⟩ := Lib.digit_of_decFrom l 0 n hd k c hk
    rw [h] at e
    cases e

set_option maxHeartbeats 4000000 in
set_option maxRecDepth 100000 in
theorem number_zero (w : World) : Calls Tryd.prog 36 #[.string ⟨#[48]⟩] w (NumR ⟨#[48]⟩ w) := by
  have h : refNum ⟨#[48]⟩ = some 0 := by decide +kernel
  unfold NumR
  rw [h]
  go_enter Tryd.func36, Tryd.ntmps36
  go_wp2_with fail
  go_rounds 2
  go_ret2
  exact ⟨rfl, rfl⟩

set_option maxHeartbeats 4000000 in
set_option maxRecDepth 100000 in
theorem number_neg (s : ByteArray) (w : World) (hm : s.size ≤ 281474976710656) (hneg : s.data[0]? = some 45) : Calls Tryd.prog 36 #[.string s] w (NumR s w) := by
  unfold NumR
  have h0s : 0 < s.size := by
    have := (Array.getElem?_eq_some_iff.1 hneg).1
    exact this
  have hq : ((s[0].toNat : Int) == 45) = true := by
    have h1 : 0 < s.data.size := h0s
    rw [Array.getElem?_eq_getElem h1] at hneg
    injection hneg with hneg
    have e : s[0] = 45 := hneg
    rw [e]
    decide
  have hne : (s.toList == [48]) = false := by
    rw [beq_eq_false_iff_ne, ByteArray.toList_eq]
    intro e
    rw [← Array.getElem?_toList, e] at hneg
    cases hneg
  have HREF := Lib.hid (refNum_neg hneg)
  have HEL := Lib.hid (ext_list s)
  have hds : (s.extract 1 s.size).size < s.size := by rw [ByteArray.size_extract]; omega
  clear hneg
  go_enter Tryd.func36, Tryd.ntmps36
  go_upto_region 4 with (fail)
  generalize s.extract 1 s.size = d at HEL hds ⊢
  have HN := Lib.hid (fun (hh : d.size = 0 ∨ 13 < d.size ∨ ∃ h : 0 < d.size, d[0].toNat = 48) => show refNum s = none by
    rw [HREF.out, ← HEL.out, if_pos]
    rcases hh with hh | hh | ⟨h, hh⟩
    · exact .inl (List.eq_nil_of_length_eq_zero (by rw [len_eq]; exact hh))
    · exact .inr (.inl (by rw [len_eq]; exact hh))
    · refine .inr (.inr ⟨?_, fun e => ?_⟩)
      · rw [List.head?_eq_getElem?, toL_at h]; congr 1; exact UInt8.toNat_inj.1 hh
      · rw [beq_eq_false_iff_ne, ByteArray.toList_eq] at hne; exact hne e)
  have HY := Lib.hid (fun (h1 : 1 ≤ d.size) (h2 : d.size ≤ 13) (h : 0 < d.size) (hh : d[0].toNat ≠ 48) => show refNum s = (Lib.decFrom 0 d.data.toList).map fun (u : Nat) => -(u : Int) by
    rw [HREF.out, ← HEL.out, if_neg]
    rintro (e | e | ⟨e, _⟩)
    · have := len_eq d; rw [e] at this; simp at this; omega
    · rw [len_eq] at e; omega
    · rw [List.head?_eq_getElem?, toL_at h] at e; injection e with e; rw [e] at hh; exact hh rfl)
  have hc : d.size = 0 ∨ 13 < d.size ∨ (1 ≤ d.size ∧ d.size ≤ 13) := by omega
  rcases hc with hc | hc | ⟨hc1, hc2⟩
  · have hem : d.toList.isEmpty = true := by rw [em_iff, decide_eq_true_iff]; exact ByteArray.ext (Array.eq_empty_of_size_eq_zero hc)
    have HF := Lib.hid (HN.out (.inl hc))
    go_wp2_with fail
    go_ret2
    exact ⟨by rw [HF.out]; rfl, rfl⟩
  · have hem : d.toList.isEmpty = false := by rw [em_iff, decide_eq_false_iff_not]; rintro rfl; exact absurd hc (by decide)
    have HF := Lib.hid (HN.out (.inr (.inl hc)))
    go_wp2_with fail
    go_ret2
    exact ⟨by rw [HF.out]; rfl, rfl⟩
  · have hem : d.toList.isEmpty = false := by rw [em_iff, decide_eq_false_iff_not]; rintro rfl; exact absurd hc1 (by decide)
    have h0 : 0 < d.size := by omega
    by_cases hz : (d[0].toNat : Int) = 48
    · have hz' : ((d[0].toNat : Int) == 48) = true := by simpa using hz
      have HF := Lib.hid (HN.out (.inr (.inr ⟨h0, by omega⟩)))
      clear hz
      go_wp2_with fail
      go_ret2
      exact ⟨by rw [HF.out]; rfl, rfl⟩
    · have hz' : ((d[0].toNat : Int) == 48) = false := by simpa using hz
      have HR := Lib.hid (HY.out hc1 hc2 h0 (by omega))
      clear hz
      go_wp2_with fail
      go_loop [5, 6] (fun n i => ∃ k m : Nat, k ≤ d.size ∧ i = .int .i64 k ∧ n = .int .i64 m ∧ Lib.decFrom 0 (d.data.toList.take k) = some m) (fun _ i => d.size - (Lib.intOf i).toNat)
      case atStart => exact ⟨0, 0, Nat.zero_le _, rfl, rfl, rfl⟩
      case round =>
        obtain ⟨k, m, hk, rfl, rfl, hdec⟩ := hrel
        have HDEC := Lib.hid hdec
        clear hdec
        by_cases hlt : k < d.size
        · have hmb := num_bound HDEC.out (by omega)
          have HAT := Lib.hid (toL_at hlt)
          have hu : d[k].toNat < 256 := d[k].toNat_lt
          have hcc : (d[k].toNat : Int) < 48 ∨ (48 ≤ (d[k].toNat : Int) ∧ 57 < (d[k].toNat : Int)) ∨ (48 ≤ (d[k].toNat : Int) ∧ (d[k].toNat : Int) ≤ 57) := by omega
          rcases hcc with hcc | ⟨hcc, hcc2⟩ | ⟨hcc, hcc2⟩
          · have hd := dec_none HAT.out (digit_no (by omega))
            have HF := Lib.hid hd
            clear hd
            go_wp2_with fail
            go_ret2
            exact ⟨by rw [HR.out, HF.out]; rfl, rfl⟩
          · have hd := dec_none HAT.out (digit_no (by omega))
            have HF := Lib.hid hd
            clear hd
            go_wp2_with fail
            go_ret2
            exact ⟨by rw [HR.out, HF.out]; rfl, rfl⟩
          · have HST := Lib.hid (Lib.decFrom_take _ k 0 m d[k] _ HDEC.out HAT.out (digit_yes (by omega)))
            obtain ⟨v, hv⟩ : ∃ v : Nat, d[k].toNat = 48 + v := ⟨d[k].toNat - 48, by omega⟩
            have hv9 : v ≤ 9 := by omega
            have HV := Lib.hid hv
            go_wp2_with fail
            go_round
            case rel => exact ⟨k + 1, m * 10 + v, by omega, by go_num, by (refine congrArg (Value.int .i64) ?_; omega), by have := HST.out; rw [HV.out] at this; rw [this]; congr 1; omega⟩
            case measure => simp [Lib.intOf]; omega
        · obtain rfl : k = d.size := by omega
          have hfull : Lib.decFrom 0 d.data.toList = some m := by have h := HDEC.out; rwa [List.take_of_length_le (by rw [len_eq]; exact Nat.le_refl _)] at h
          have hmb := num_bound13 hfull (by rw [len_eq]; exact hc2)
          have HF := Lib.hid hfull
          clear hfull
          go_wp2_with fail
          go_ret2
          exact ⟨by rw [HR.out, HF.out]; rfl, rfl⟩

set_option maxHeartbeats 4000000 in
set_option maxRecDepth 100000 in
theorem number_plain (d : ByteArray) (w : World) (hm : d.size ≤ 281474976710656) (hneg : ¬ d.data[0]? = some 45) (hzz : d ≠ ⟨#[48]⟩) : Calls Tryd.prog 36 #[.string d] w (NumR d w) := by
  unfold NumR
  have HREF := Lib.hid (refNum_plain hneg)
  have hne : (d.toList == [48]) = false := by
    rw [beq_eq_false_iff_ne, ByteArray.toList_eq]
    intro e
    exact hzz (data_inj e)
  have HNE := Lib.hid hne
  have HN := Lib.hid (fun (hh : d.size = 0 ∨ 13 < d.size ∨ ∃ h : 0 < d.size, d[0].toNat = 48) => show refNum d = none by
    rw [HREF.out, if_pos]
    rcases hh with hh | hh | ⟨h, hh⟩
    · exact .inl (List.eq_nil_of_length_eq_zero (by rw [len_eq]; exact hh))
    · exact .inr (.inl (by rw [len_eq]; exact hh))
    · refine .inr (.inr ⟨?_, fun e => ?_⟩)
      · rw [List.head?_eq_getElem?, toL_at h]; congr 1; exact UInt8.toNat_inj.1 hh
      · have hne := HNE.out; rw [beq_eq_false_iff_ne, ByteArray.toList_eq] at hne; exact hne e)
  have HY := Lib.hid (fun (h1 : 1 ≤ d.size) (h2 : d.size ≤ 13) (h : 0 < d.size) (hh : d[0].toNat ≠ 48) => show refNum d = (Lib.decFrom 0 d.data.toList).map fun (u : Nat) => (u : Int) by
    rw [HREF.out, if_neg]
    rintro (e | e | ⟨e, _⟩)
    · have := len_eq d; rw [e] at this; simp at this; omega
    · rw [len_eq] at e; omega
    · rw [List.head?_eq_getElem?, toL_at h] at e; injection e with e; rw [e] at hh; exact hh rfl)
  by_cases hd0 : 0 < d.size
  · have hq : ((d[0].toNat : Int) == 45) = false := by
      have h1 : 0 < d.data.size := hd0
      rw [beq_eq_false_iff_ne]
      intro e
      apply hneg
      rw [Array.getElem?_eq_getElem h1]
      congr 1
      apply UInt8.toNat_inj.1
      have e2 : (45 : UInt8).toNat = 45 := rfl
      have e3 : d.data[0].toNat = d[0].toNat := rfl
      omega
    clear hneg hzz
    go_enter Tryd.func36, Tryd.ntmps36
    go_upto_region 4 with (fail)
    have hc : d.size = 0 ∨ 13 < d.size ∨ (1 ≤ d.size ∧ d.size ≤ 13) := by omega
    rcases hc with hc | hc | ⟨hc1, hc2⟩
    · have hem : d.toList.isEmpty = true := by rw [em_iff, decide_eq_true_iff]; exact ByteArray.ext (Array.eq_empty_of_size_eq_zero hc)
      have HF := Lib.hid (HN.out (.inl hc))
      go_wp2_with fail
      go_ret2
      exact ⟨by rw [HF.out]; rfl, rfl⟩
    · have hem : d.toList.isEmpty = false := by rw [em_iff, decide_eq_false_iff_not]; rintro rfl; exact absurd hc (by decide)
      have HF := Lib.hid (HN.out (.inr (.inl hc)))
      go_wp2_with fail
      go_ret2
      exact ⟨by rw [HF.out]; rfl, rfl⟩
    · have hem : d.toList.isEmpty = false := by rw [em_iff, decide_eq_false_iff_not]; rintro rfl; exact absurd hc1 (by decide)
      have h0 : 0 < d.size := by omega
      by_cases hz : (d[0].toNat : Int) = 48
      · have hz' : ((d[0].toNat : Int) == 48) = true := by simpa using hz
        have HF := Lib.hid (HN.out (.inr (.inr ⟨h0, by omega⟩)))
        clear hz
        go_wp2_with fail
        go_ret2
        exact ⟨by rw [HF.out]; rfl, rfl⟩
      · have hz' : ((d[0].toNat : Int) == 48) = false := by simpa using hz
        have HR := Lib.hid (HY.out hc1 hc2 h0 (by omega))
        clear hz
        go_wp2_with fail
        go_loop [5, 6] (fun n i => ∃ k m : Nat, k ≤ d.size ∧ i = .int .i64 k ∧ n = .int .i64 m ∧ Lib.decFrom 0 (d.data.toList.take k) = some m) (fun _ i => d.size - (Lib.intOf i).toNat)
        case atStart => exact ⟨0, 0, Nat.zero_le _, rfl, rfl, rfl⟩
        case round =>
          obtain ⟨k, m, hk, rfl, rfl, hdec⟩ := hrel
          have HDEC := Lib.hid hdec
          clear hdec
          by_cases hlt : k < d.size
          · have hmb := num_bound HDEC.out (by omega)
            have HAT := Lib.hid (toL_at hlt)
            have hu : d[k].toNat < 256 := d[k].toNat_lt
            have hcc : (d[k].toNat : Int) < 48 ∨ (48 ≤ (d[k].toNat : Int) ∧ 57 < (d[k].toNat : Int)) ∨ (48 ≤ (d[k].toNat : Int) ∧ (d[k].toNat : Int) ≤ 57) := by omega
            rcases hcc with hcc | ⟨hcc, hcc2⟩ | ⟨hcc, hcc2⟩
            · have hd := dec_none HAT.out (digit_no (by omega))
              have HF := Lib.hid hd
              clear hd
              go_wp2_with fail
              go_ret2
              exact ⟨by rw [HR.out, HF.out]; rfl, rfl⟩
            · have hd := dec_none HAT.out (digit_no (by omega))
              have HF := Lib.hid hd
              clear hd
              go_wp2_with fail
              go_ret2
              exact ⟨by rw [HR.out, HF.out]; rfl, rfl⟩
            · have HST := Lib.hid (Lib.decFrom_take _ k 0 m d[k] _ HDEC.out HAT.out (digit_yes (by omega)))
              obtain ⟨v, hv⟩ : ∃ v : Nat, d[k].toNat = 48 + v := ⟨d[k].toNat - 48, by omega⟩
              have hv9 : v ≤ 9 := by omega
              have HV := Lib.hid hv
              go_wp2_with fail
              go_round
              case rel => exact ⟨k + 1, m * 10 + v, by omega, by go_num, by (refine congrArg (Value.int .i64) ?_; omega), by have := HST.out; rw [HV.out] at this; rw [this]; congr 1; omega⟩
              case measure => simp [Lib.intOf]; omega
          · obtain rfl : k = d.size := by omega
            have hfull : Lib.decFrom 0 d.data.toList = some m := by have h := HDEC.out; rwa [List.take_of_length_le (by rw [len_eq]; exact Nat.le_refl _)] at h
            have hmb := num_bound13 hfull (by rw [len_eq]; exact hc2)
            have HF := Lib.hid hfull
            clear hfull
            go_wp2_with fail
            go_ret2
            exact ⟨by rw [HR.out, HF.out]; rfl, rfl⟩
  · have hsz : d.size = 0 := by omega
    have hem : d.toList.isEmpty = true := by rw [em_iff, decide_eq_true_iff]; exact ByteArray.ext (Array.eq_empty_of_size_eq_zero hsz)
    rw [HN.out (.inl hsz)]
    clear hneg hzz hd0
    go_enter Tryd.func36, Tryd.ntmps36
    go_wp2_with fail
    go_ret2
    exact ⟨rfl, rfl⟩
end Go.Proofs.YtadjgjbkjhallaaDoor
