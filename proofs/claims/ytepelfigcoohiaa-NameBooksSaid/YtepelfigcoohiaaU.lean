/- The kit's marks; rows lent. -/
import Derived.Test.YtepelfigcoohiaaS
import Derived.Test.YtepelfigcoohiaaO
import Derived.Laws.BytesArg
namespace Go.Proofs.Ytepelfigcoohiaa
open Go.ChangeShapes Go.WideShapes Go.ChangeAt Go.RowKit Go.Maps Go.Shelf
set_option linter.unusedVariables false

theorem ret_str {a b : ByteArray} (h : a = b) : Ending.returned (.string a) = .returned (.string b) := by rw [h]

theorem mark_any (k i : Int) (w : World) : Calls Try.prog 37 #[.int .i64 k, .int .i64 i] w fun e w' => (∃ x, e = .returned (.int .i64 x)) ∧ w = w' := by
  go_enter Try.func37, Try.ntmps37
  go_wp2
  go_ret
  exact ⟨⟨_, rfl⟩, rfl⟩

def mtN (k i : Int) : List Int := [35, k, k / 256, k / 65536, 47, i % 256, i / 256, i / 65536]
/-- the mark of a place in a row of texts -/
def mT (k i : Int) : ByteArray := strOfNums (mtN k i)

theorem markText_any (k i : Int) (w : World) (hk1 : 0 ≤ k) (hk2 : k ≤ 2) (hi1 : 0 ≤ i) (hi2 : i ≤ 1000) : Calls Try.prog 33 #[.int .i64 k, .int .i64 i] w fun e w' => e = .returned (.string (mT k i)) ∧ Below w.heap.size w w' := by
  have hrun := run_convert_bytes_arg (P := Try.prog) (w.alloc (.cells #[.int .u8 35, .int .u8 k, .int .u8 (k / 256), .int .u8 (k / 65536), .int .u8 47, .int .u8 (i % 256), .int .u8 (i / 256), .int .u8 (i / 65536)] 5)) 64 5 Try.underlying64 Try.underlying5 w.heap.size 0 8 8 (mtN k i) rfl (by
    intro j hj
    rw [Nat.zero_add, cell_of_row _ _ _ _ 5 (0, 0) (heap_alloc_new w _)]
    have h : j = 0 ∨ j = 1 ∨ j = 2 ∨ j = 3 ∨ j = 4 ∨ j = 5 ∨ j = 6 ∨ j = 7 := by omega
    rcases h with rfl | rfl | rfl | rfl | rfl | rfl | rfl | rfl <;> rfl) 9 Try.underlying9
  obtain ⟨t, ht⟩ : ∃ t, strOfNums (mtN k i) = t := ⟨_, rfl⟩
  have HT := Lib.hid (show mT k i = t from ht)
  rw [ht] at hrun
  clear ht
  go_enter Try.func33, Try.ntmps33
  go_wp2
  go_ret
  exact ⟨ret_str HT.out.symm, (Below.refl _ _).alloc (Nat.le_refl _) _⟩

/-- the marks behind a row that is lent -/
def mks : List ByteArray := (List.range 12).map fun i : Nat => mT 1 (i : Int)
theorem mks_len : mks.length = 12 := by simp [mks]
theorem mks_get (k : Nat) (h : k < mks.length) : mks[k] = mT 1 (k : Int) := by simp [mks]

/-- a row that is lent: a copy, with marks behind it -/
def LentR (l : List ByteArray) (w : World) (e : Ending) (w' : World) : Prop :=
  ∃ g c, e = .returned (.slice (some ⟨g, 0, none⟩) l.length c) ∧ w'.ownsRow w.heap.size 9 1 (.slice (some ⟨g, 0, none⟩) (l.length + 12) c) (l.length + 12) ((l ++ mks).map Value.string) ∧ Below w.heap.size w w'

set_option maxHeartbeats 1000000 in
theorem lent_any (v : Value) (l : List ByteArray) (w : World) (hv : SR w v l) (hll : l.length ≤ 1000000) : Calls Try.prog 14 #[v] w (LentR l w) := by
  obtain ⟨i9, hi9, hz9, hs9, hb9⟩ := info_parts info9
  have HV := Lib.hid hv
  obtain ⟨A, c, rfl, hv2⟩ := hv
  clear hv2
  obtain ⟨M, hM⟩ : ∃ M, M = madeCells (Value.string ⟨#[]⟩).cells ((l.length + 12) * i9.size) := ⟨_, rfl⟩
  have hMs : M.size = (l.length + 12) * 1 := by rw [hM, size_madeCells, hs9]
  have eN : ((l.length : Int) + 12).toNat = l.length + 12 := by omega
  have hmk : ∀ W : World, (Instr.makeSlice 30 (.int .i64 0) (.int .i64 ((l.length : Int) + 12))).run Try.prog W = .ok (.slice (some ⟨W.heap.size, 0, none⟩) 0 (l.length + 12)) (W.alloc (.cells M 9)) := fun W => by
    have h := run_make (P := Try.prog) W 30 9 i9 (.string ⟨#[]⟩) Try.underlying30 hi9 hz9 .i64 .i64 0 ((l.length : Int) + 12) (by omega) (by omega) (by rw [hb9]; omega) (by omega)
    rw [eN, ← hM] at h
    simpa using h
  have HMS := Lib.hid hMs
  clear hM hMs eN
  go_enter Try.func14, Try.ntmps14
  go_wp2_with (at_builtin; refine wpList_append_sr rfl _ _ rfl w.heap.size (.slice (some ⟨w.heap.size, 0, none⟩) 0 (l.length + 12)) 0 [] rfl (World.ownsRow_made w M (l.length + 12) (Nat.le_refl _) (by unfold maxLen; omega) HMS.out) A c l rfl (HV.out.below ((Below.refl _ _).alloc (Nat.le_refl _) _)) (by omega) (by simp) ?_; intro mv w1 hown1 hgrow1 hloc1; obtain ⟨Am, cm, rfl⟩ := row_form2 hown1)
  have hB1 : Below w.heap.size w w1 := ((Below.refl _ w).alloc (Nat.le_refl _) _).grown hgrow1 (by simp) (fun k hk => by simp [Value.ownBlock] at hk; omega)
  have HB1 := Lib.hid hB1
  have HOWN1 := Lib.hid hown1
  clear hgrow1 hloc1 hown1 hB1 hmk
  go_loopw [3, 4] (fun v i wr => ∃ k : Nat, k ≤ 12 ∧ i = .int .i64 k ∧ wr.ownsRow w.heap.size 9 1 v (l.length + k) ((l ++ mks.take k).map Value.string) ∧ Below w.heap.size w wr) (fun _ i _ => 12 - (intOf i).toNat)
  case atStart => exact ⟨0, Nat.zero_le _, rfl, by simpa using HOWN1.out, HB1.out⟩
  case round =>
    obtain ⟨k, hk, rfl, hrow, hbe⟩ := hrel
    have HROW := Lib.hid hrow
    have HBE := Lib.hid hbe
    have hzr := hbe.size
    by_cases hlt : k < 12
    · have hk12 : (k : Int) < 12 := by omega
      clear hrow hbe
      go_wp2_with fail
      refine (markText_any 1 k _ (by omega) (by omega) (by omega) (by omega)).mono ?_
      rintro e w2 ⟨rfl, hb2⟩
      have HB2 := Lib.hid hb2
      have hz2 := hb2.size
      obtain ⟨t, ht⟩ : ∃ t, mT 1 (k : Int) = t := ⟨_, rfl⟩
      have HT := Lib.hid ht
      rw [ht]
      have hrow2 := HROW.out.kept (w' := w2) (row := none) ⟨hb2.os, hb2.tape, hb2.output, hb2.size, fun i hi _ => hb2.block i hi⟩ (by cases hv : Value.ownBlock _ <;> simp)
      clear hb2 ht
      go_wp2_with (at_builtin; refine wpList_append_own_at _ rfl _ _ 30 rfl w.heap.size 9 i9 (.string ⟨#[]⟩) 1 16 Try.underlying30 hi9 hz9 hs9 hb9 rfl (by decide) _ _ _ rfl (hrow2.alloc _) ⟨w2.heap.size, 0, none⟩ 1 1 [.string t] rfl rfl (cell_one_new _ _ _) (by simp [Value.oneCell']) (by unfold maxLen; omega) (by omega) (by simp; omega) ?_; intro v' w4 hown' hgrow hnil hloc)
      go_roundw
      case rel =>
        refine ⟨k + 1, by omega, by go_num, ?_, ?_⟩
        · rw [List.take_succ_eq_append_getElem (by rw [mks_len]; exact hlt), mks_get, HT.out]
          simpa [Nat.add_assoc] using hown'
        · exact ((HBE.out.trans (HB2.out.mono hzr)).alloc (by omega) _).grown hgrow (by simp; omega) (fun g hg => (hrow2.lt g hg).1)
      case measure => simp [intOf]; omega
    · obtain rfl : k = 12 := by omega
      rw [List.take_of_length_le (by rw [mks_len]; exact Nat.le_refl _)] at hrow
      obtain ⟨g, cap, rfl⟩ := ownsRow_succ (k := l.length + 11) hrow
      have hcap := own_cap hrow
      have hc2 : l.length ≤ cap := by omega
      have HR2 := Lib.hid hrow
      clear hrow hbe
      go_wp2_with fail
      go_ret
      exact ⟨g, cap, rfl, HR2.out, HBE.out⟩
end Go.Proofs.Ytepelfigcoohiaa
