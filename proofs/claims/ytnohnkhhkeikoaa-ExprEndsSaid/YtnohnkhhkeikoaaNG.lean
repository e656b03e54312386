/- Walks of what tells names. -/
import Derived.Test.YtnohnkhhkeikoaaA
import Derived.Deep.Cut
import Derived.BigQuiet
import Derived.Laws.RangeString
import Derived.Laws.RangeAny
namespace Go.Proofs.Ytnohnkhhkeikoaa
open Go.ChangeShapes Go.WideShapes Go.ChangeAt Go.RowKit
set_option linter.unusedVariables false

def letB (r : Int) : Bool := decide (97 ≤ r ∧ r ≤ 122)
def sgnB (r : Int) : Bool := decide ((97 ≤ r ∧ r ≤ 122) ∨ (48 ≤ r ∧ r ≤ 57) ∨ r = 95)
def allS (l : List UInt8) : Bool := l.all fun c => sgnB c.toNat
def verB (s : ByteArray) : Bool := decide (1 ≤ s.size ∧ s.size ≤ 20) && allS s.data.toList
def wordB (s : ByteArray) : Bool := s.toList == [97, 115] || s.toList == [109, 97, 116, 99, 104] || s.toList == [119, 104, 101, 114, 101] || s.toList == [97, 110, 100] || s.toList == [114, 101, 116, 117, 114, 110] || s.toList == [114, 97, 110, 103, 101] || s.toList == [115, 108, 105, 100, 101]

theorem isLetter_any (r : Int) (w : World) : Calls Try.prog 77 #[.int .i32 r] w fun e w' => e = .returned (.bool (letB r)) ∧ w = w' := by
  have h : r < 97 ∨ (97 ≤ r ∧ 122 < r) ∨ (97 ≤ r ∧ r ≤ 122) := by omega
  rcases h with h | ⟨h1, h2⟩ | ⟨h1, h2⟩
  all_goals
    go_enter Try.func77, Try.ntmps77
    go_wp2
    go_ret
    exact ⟨ret_bool (by simp [letB]; try omega), rfl⟩

theorem letter_any (r : Int) (w : World) : Calls Try.prog 80 #[.int .u8 r] w fun e w' => e = .returned (.bool (letB r)) ∧ w = w' := by
  have h : r < 97 ∨ (97 ≤ r ∧ 122 < r) ∨ (97 ≤ r ∧ r ≤ 122) := by omega
  rcases h with h | ⟨h1, h2⟩ | ⟨h1, h2⟩
  all_goals
    go_enter Try.func80, Try.ntmps80
    go_wp2
    go_ret
    exact ⟨ret_bool (by simp [letB]; try omega), rfl⟩

theorem isSign_any (r : Int) (w : World) : Calls Try.prog 89 #[.int .i32 r] w fun e w' => e = .returned (.bool (sgnB r)) ∧ w = w' := by
  cases hl : letB r with
  | true =>
    have HL := Lib.hid hl
    go_enter Try.func89, Try.ntmps89
    go_wp2_with (go_at_call 77; refine (isLetter_any _ _).mono ?_; rintro e w' ⟨rfl, rfl⟩)
    go_ret
    exact ⟨ret_bool (by have := HL.out; simp [letB] at this; simp [sgnB]; omega), rfl⟩
  | false =>
    have HL := Lib.hid hl
    have h : r < 48 ∨ (48 ≤ r ∧ r ≤ 57) ∨ (48 ≤ r ∧ 57 < r) := by omega
    rcases h with h | ⟨h1, h2⟩ | ⟨h1, h2⟩
    · have hb : (r == 95) = false := by rw [beq_eq_false_iff_ne]; omega
      go_enter Try.func89, Try.ntmps89
      go_wp2_with (go_at_call 77; refine (isLetter_any _ _).mono ?_; rintro e w' ⟨rfl, rfl⟩)
      go_ret
      exact ⟨ret_bool (by simp [sgnB]; omega), rfl⟩
    · go_enter Try.func89, Try.ntmps89
      go_wp2_with (go_at_call 77; refine (isLetter_any _ _).mono ?_; rintro e w' ⟨rfl, rfl⟩)
      go_ret
      exact ⟨ret_bool (by simp [sgnB]; omega), rfl⟩
    · by_cases h3 : r = 95
      · subst h3
        go_enter Try.func89, Try.ntmps89
        go_wp2_with (go_at_call 77; refine (isLetter_any _ _).mono ?_; rintro e w' ⟨rfl, rfl⟩)
        go_ret
        exact ⟨ret_bool (by simp [sgnB]), rfl⟩
      · have hb : (r == 95) = false := by rw [beq_eq_false_iff_ne]; omega
        go_enter Try.func89, Try.ntmps89
        go_wp2_with (go_at_call 77; refine (isLetter_any _ _).mono ?_; rintro e w' ⟨rfl, rfl⟩)
        go_ret
        exact ⟨ret_bool (by rw [decide_eq_false (show ¬ r ≤ 57 by omega)]; symm; unfold sgnB; rw [decide_eq_false_iff_not]; have := HL.out; unfold letB at this; rw [decide_eq_false_iff_not] at this; omega), rfl⟩

theorem sign_any (r : Int) (w : World) : Calls Try.prog 90 #[.int .u8 r] w fun e w' => e = .returned (.bool (sgnB r)) ∧ w = w' := by
  cases hl : letB r with
  | true =>
    have HL := Lib.hid hl
    go_enter Try.func90, Try.ntmps90
    go_wp2_with (go_at_call 80; refine (letter_any _ _).mono ?_; rintro e w' ⟨rfl, rfl⟩)
    go_ret
    exact ⟨ret_bool (by have := HL.out; simp [letB] at this; simp [sgnB]; omega), rfl⟩
  | false =>
    have HL := Lib.hid hl
    have h : r < 48 ∨ (48 ≤ r ∧ r ≤ 57) ∨ (48 ≤ r ∧ 57 < r) := by omega
    rcases h with h | ⟨h1, h2⟩ | ⟨h1, h2⟩
    · have hb : (r == 95) = false := by rw [beq_eq_false_iff_ne]; omega
      go_enter Try.func90, Try.ntmps90
      go_wp2_with (go_at_call 80; refine (letter_any _ _).mono ?_; rintro e w' ⟨rfl, rfl⟩)
      go_ret
      exact ⟨ret_bool (by simp [sgnB]; omega), rfl⟩
    · go_enter Try.func90, Try.ntmps90
      go_wp2_with (go_at_call 80; refine (letter_any _ _).mono ?_; rintro e w' ⟨rfl, rfl⟩)
      go_ret
      exact ⟨ret_bool (by simp [sgnB]; omega), rfl⟩
    · by_cases h3 : r = 95
      · subst h3
        go_enter Try.func90, Try.ntmps90
        go_wp2_with (go_at_call 80; refine (letter_any _ _).mono ?_; rintro e w' ⟨rfl, rfl⟩)
        go_ret
        exact ⟨ret_bool (by simp [sgnB]), rfl⟩
      · have hb : (r == 95) = false := by rw [beq_eq_false_iff_ne]; omega
        go_enter Try.func90, Try.ntmps90
        go_wp2_with (go_at_call 80; refine (letter_any _ _).mono ?_; rintro e w' ⟨rfl, rfl⟩)
        go_ret
        exact ⟨ret_bool (by rw [decide_eq_false (show ¬ r ≤ 57 by omega)]; symm; unfold sgnB; rw [decide_eq_false_iff_not]; have := HL.out; unfold letB at this; rw [decide_eq_false_iff_not] at this; omega), rfl⟩

theorem isWord_any (s : ByteArray) (w : World) : Calls Try.prog 78 #[.string s] w fun e w' => e = .returned (.bool (wordB s)) ∧ w = w' := by
  cases w1 : (s.toList == [97, 115]) with
  | true =>
    go_enter Try.func78, Try.ntmps78
    go_wp2
    go_ret
    exact ⟨ret_bool (by simp [wordB, w1]), rfl⟩
  | false =>
    cases w2 : (s.toList == [109, 97, 116, 99, 104]) with
    | true =>
      go_enter Try.func78, Try.ntmps78
      go_wp2
      go_ret
      exact ⟨ret_bool (by simp [wordB, w1, w2]), rfl⟩
    | false =>
      cases w3 : (s.toList == [119, 104, 101, 114, 101]) with
      | true =>
        go_enter Try.func78, Try.ntmps78
        go_wp2
        go_ret
        exact ⟨ret_bool (by simp [wordB, w1, w2, w3]), rfl⟩
      | false =>
        cases w4 : (s.toList == [97, 110, 100]) with
        | true =>
          go_enter Try.func78, Try.ntmps78
          go_wp2
          go_ret
          exact ⟨ret_bool (by simp [wordB, w1, w2, w3, w4]), rfl⟩
        | false =>
          cases w5 : (s.toList == [114, 101, 116, 117, 114, 110]) with
          | true =>
            go_enter Try.func78, Try.ntmps78
            go_wp2
            go_ret
            exact ⟨ret_bool (by simp [wordB, w1, w2, w3, w4, w5]), rfl⟩
          | false =>
            cases w6 : (s.toList == [114, 97, 110, 103, 101]) with
            | true =>
              go_enter Try.func78, Try.ntmps78
              go_wp2
              go_ret
              exact ⟨ret_bool (by simp [wordB, w1, w2, w3, w4, w5, w6]), rfl⟩
            | false =>
              cases w7 : (s.toList == [115, 108, 105, 100, 101]) with
              | true =>
                go_enter Try.func78, Try.ntmps78
                go_wp2
                go_ret
                exact ⟨ret_bool (by simp [wordB, w1, w2, w3, w4, w5, w6, w7]), rfl⟩
              | false =>
                go_enter Try.func78, Try.ntmps78
                go_wp2
                go_ret
                exact ⟨ret_bool (by simp [wordB, w1, w2, w3, w4, w5, w6, w7]), rfl⟩

theorem allS_get {l : List UInt8} (h : allS l = true) (k : Nat) (hk : k < l.length) : sgnB (l[k]).toNat = true := by
  unfold allS at h
  rw [List.all_eq_true] at h
  exact h _ (List.getElem_mem hk)
theorem allS_succ {l : List UInt8} {k : Nat} (h : allS (l.take k) = true) (hk : k < l.length) (hs : sgnB (l[k]).toNat = true) : allS (l.take (k + 1)) = true := by
  rw [List.take_succ_eq_append_getElem hk]
  unfold allS at h ⊢
  rw [List.all_append, h]
  simpa using hs
theorem allS_not {l : List UInt8} {k : Nat} (hk : k < l.length) (hs : sgnB (l[k]).toNat = false) : allS l = false := by
  cases h : allS l with
  | false => rfl
  | true => rw [allS_get h k hk] at hs; cases hs

theorem rVertex_any (s : ByteArray) (w : World) (hm : s.size ≤ maxLen) : Calls Try.prog 79 #[.string s] w fun e w' => e = .returned (.bool (verB s)) ∧ w = w' := by
  unfold maxLen at hm
  have hsz : s.data.toList.length = s.size := by rw [Array.length_toList]; rfl
  have HSZ := Lib.hid hsz
  clear hsz
  go_enter Try.func79, Try.ntmps79
  go_wp2
  go_loop [3] (fun i => ∃ k : Nat, k ≤ s.size ∧ i = .int .i64 k ∧ allS (s.data.toList.take k) = true) (fun i => s.size - (intOf i).toNat)
  case atStart => exact ⟨0, Nat.zero_le _, rfl, rfl⟩
  case round =>
    obtain ⟨k, hk, rfl, hall⟩ := hrel
    have HALL := Lib.hid hall
    clear hall
    by_cases hlt : k < s.size
    · have hkl : k < s.data.toList.length := by rw [HSZ.out]; exact hlt
      have hb : s.data.toList[k] = s[k] := rfl
      have HB := Lib.hid hb
      clear hb
      cases hsg : sgnB (s[k].toNat : Int) with
      | true =>
        have HS := Lib.hid hsg
        go_wp2_with (go_at_call 90; refine (sign_any _ _).mono ?_; rintro e w' ⟨rfl, rfl⟩)
        go_round
        case rel => exact ⟨k + 1, by omega, by go_num, allS_succ HALL.out hkl (by rw [HB.out]; exact HS.out)⟩
        case measure => simp [intOf]; omega
      | false =>
        have HS := Lib.hid hsg
        go_wp2_with (go_at_call 90; refine (sign_any _ _).mono ?_; rintro e w' ⟨rfl, rfl⟩)
        go_ret
        exact ⟨ret_bool (by unfold verB; rw [allS_not hkl (by rw [HB.out]; exact HS.out), Bool.and_false]), rfl⟩
    · obtain rfl : k = s.size := by omega
      have h2 : s.size < 1 ∨ (1 ≤ s.size ∧ 20 < s.size) ∨ (1 ≤ s.size ∧ s.size ≤ 20) := by omega
      have hv : verB s = decide (1 ≤ s.size ∧ s.size ≤ 20) := by
        have := HALL.out
        rw [List.take_of_length_le (by rw [HSZ.out]; exact Nat.le_refl _)] at this
        unfold verB
        rw [this, Bool.and_true]
      have HV := Lib.hid hv
      clear hv
      rcases h2 with h2 | ⟨h2, h3⟩ | ⟨h2, h3⟩
      all_goals
        go_wp2
        go_ret
        exact ⟨ret_bool (by rw [HV.out, Bool.eq_iff_iff]; simp; try omega), rfl⟩

theorem vertex_any (s : ByteArray) (w : World) (hm : s.size ≤ maxLen) : Calls Try.prog 76 #[.string s] w fun e w' => e = .returned (.bool (verB s)) ∧ Below w.heap.size w w' := by
  unfold maxLen at hm
  have h2 : s.size < 1 ∨ (1 ≤ s.size ∧ 20 < s.size) ∨ (1 ≤ s.size ∧ s.size ≤ 20) := by omega
  rcases h2 with h2 | ⟨h2, h3⟩ | ⟨h2, h3⟩
  · go_enter Try.func76, Try.ntmps76
    go_wp2
    go_ret
    exact ⟨ret_bool (by unfold verB; simp; omega), Below.refl _ _⟩
  · go_enter Try.func76, Try.ntmps76
    go_wp2
    go_ret
    exact ⟨ret_bool (by unfold verB; simp; omega), Below.refl _ _⟩
  · have hsz : s.data.toList.length = s.size := by rw [Array.length_toList]; rfl
    have HSZ := Lib.hid hsz
    clear hsz
    go_enter Try.func76, Try.ntmps76
    go_wp2
    go_loopw [4] (fun _ wr => ∃ k : Nat, k ≤ s.size ∧ wr = w.iter s k ∧ allS (s.data.toList.take k) = true) (fun _ wr => s.size - wr.iterPos w.heap.size)
    case atStart => exact ⟨0, Nat.zero_le _, rfl, rfl⟩
    case round =>
      obtain ⟨k, hk, rfl, hall⟩ := hrel
      have HALL := Lib.hid hall
      clear hall
      by_cases hlt : k < s.size
      · have hkl : k < s.data.toList.length := by rw [HSZ.out]; exact hlt
        have hb : s.data.toList[k] = s[k] := rfl
        have HB := Lib.hid hb
        clear hb
        by_cases hasc : (s[k].toNat) < 128
        · have hnx := fun ty => run_next_ascii (P := Try.prog) w s k ty hlt hasc
          cases hsg : sgnB (s[k].toNat : Int) with
          | true =>
            have HS := Lib.hid hsg
            go_wp2_with (go_at_call 89; refine (isSign_any _ _).mono ?_; rintro e w' ⟨rfl, rfl⟩)
            go_roundw
            case rel => exact ⟨k + 1, by omega, rfl, allS_succ HALL.out hkl (by rw [HB.out]; exact HS.out)⟩
            case measure => simp; omega
          | false =>
            have HS := Lib.hid hsg
            go_wp2_with (go_at_call 89; refine (isSign_any _ _).mono ?_; rintro e w' ⟨rfl, rfl⟩)
            go_ret
            exact ⟨ret_bool (by unfold verB; rw [allS_not hkl (by rw [HB.out]; exact HS.out), Bool.and_false]), (Below.refl _ _).alloc (Nat.le_refl _) _⟩
        · have hhi := (decode_high s k hlt (by omega)).1
          have hnx := fun ty => run_next_any (P := Try.prog) w s k ty hlt
          obtain ⟨rn, hrn⟩ : ∃ rn, Utf8.decode s k = rn := ⟨_, rfl⟩
          obtain ⟨r, n⟩ := rn
          rw [hrn] at hhi
          simp only [hrn] at hnx
          have hsg : sgnB (r : Int) = false := by unfold sgnB; rw [decide_eq_false_iff_not]; simp at hhi; omega
          have hsg2 : sgnB (s[k].toNat : Int) = false := by unfold sgnB; rw [decide_eq_false_iff_not]; omega
          have HS := Lib.hid hsg2
          clear hsg2 hrn
          go_wp2_with (go_at_call 89; refine (isSign_any _ _).mono ?_; rintro e w' ⟨rfl, rfl⟩)
          go_ret
          exact ⟨ret_bool (by unfold verB; rw [allS_not hkl (by rw [HB.out]; exact HS.out), Bool.and_false]), (Below.refl _ _).alloc (Nat.le_refl _) _⟩
      · obtain rfl : k = s.size := by omega
        have hnx := fun ty => run_next_end (P := Try.prog) w s s.size ty hlt
        have hv : verB s = true := by
          have := HALL.out
          rw [List.take_of_length_le (by rw [HSZ.out]; exact Nat.le_refl _)] at this
          unfold verB
          rw [this, decide_eq_true ⟨h2, h3⟩]; rfl
        have HV := Lib.hid hv
        clear hv
        go_wp2
        go_ret
        exact ⟨ret_bool HV.out.symm, (Below.refl _ _).alloc (Nat.le_refl _) _⟩
end Go.Proofs.Ytnohnkhhkeikoaa
