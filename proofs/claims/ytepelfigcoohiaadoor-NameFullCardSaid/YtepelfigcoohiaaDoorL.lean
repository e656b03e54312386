/- Walk of the law on a full book. -/
import Derived.Test.YtepelfigcoohiaaDoorK
namespace Go.Proofs.YtepelfigcoohiaaDoor
open Go.ChangeShapes Go.WideShapes Go.ChangeAt Go.RowKit Go.Maps Go.Shelf
set_option linter.unusedVariables false

def Tab (w : World) : Prop := Lib.TabIs Tryd.prog w "internal/strconv.uint64pow10" .u64 Lib.pow10Tab
theorem Tab.below {w w' : World} (h : Tab w) (hb : Below w.heap.size w w') : Tab w' := Lib.tabBelow_of_tabIs h w' hb

theorem itoa_any (k : Nat) (hk : k ≤ 65536) (w : World) (h : Tab w) : Calls Tryd.prog 6 #[.int .i64 k] w fun e w' => e = .returned (.string (tx k)) ∧ Below w.heap.size w w' := by
  refine (Tryd.strconv_Itoa (k : Int) (by omega) (by omega) w h).mono ?_
  rintro e w' ⟨rfl, a, os, rfl⟩
  exact ⟨rfl, Lib.below_grow _ w (Nat.le_refl _) a os⟩

theorem T_take_size (n : Nat) (hn : n ≤ 65536) : ∀ s ∈ T n, s.size ≤ 140737488355328 := fun s hs => by
  obtain ⟨k, hk, rfl⟩ := T_mem.1 hs
  exact tx_size k (by omega)

theorem of_no {w : World} {b m : Nat} {sv : Value} {L : List ByteArray} (h : Bk w b m sv L) (v : Value) (l : List ByteArray) (hv : SR w v l) (hoff : 0 < l.length → ∀ g, v.ownBlock = some g → Off b m sv g)
    (hl : ∀ s ∈ l, s.size ≤ 140737488355328) (hlen : L.length ≤ 65536) (hll : l.length ≤ 1000000) (hbig : 65536 < L.length + (fr L l).length) :
    Calls Tryd.prog 7 #[.pointer (some ⟨b, 0, none⟩), v] w fun e w' => e = .returned (.tuple #[.slice none 0 0, .int .i64 3]) ∧ Below w.heap.size w w' := by
  refine (of_any h v l hv hoff hl hlen hll).mono ?_
  rintro e w' (⟨hc, _⟩ | ⟨_, rfl, hb⟩)
  · omega
  · exact ⟨rfl, hb⟩

def FullR (w : World) (e : Ending) (w' : World) : Prop := e = .returned (.bool true) ∧ Below w.heap.size w w'

set_option maxRecDepth 100000 in
set_option maxHeartbeats 4000000 in
theorem full_any (w : World) (htab : Tab w) : Calls Tryd.prog 3 #[] w (FullR w) := by
  have HTAB := Lib.hid htab
  clear htab
  obtain ⟨i0, hi, hz0, hz1, hz3⟩ := info_parts info9
  go_enter Tryd.func3, Tryd.ntmps3
  go_wp2_with (go_at_call 4; refine (awake_any _).mono ?_; rintro e w1 ⟨rfl, hb1⟩; have HB1 := Lib.hid hb1; clear hb1)
  refine (new_any _).mono ?_
  rintro e w2 ⟨b, m, rfl, hbk, h1, h2, hb2⟩
  have HB2 := Lib.hid (HB1.out.trans (hb2.mono HB1.out.size))
  have hz := HB1.out.size
  have HO2 := Lib.hid (⟨hbk, by omega, by omega, fun g e => by simp [Value.ownBlock] at e⟩ : Own w.heap.size w2 b m _ [])
  clear hb2 hbk h1 h2
  go_wp2_with fail
  go_loopw [2, 3] (fun v i wr => ∃ k : Nat, k ≤ 65534 ∧ i = .int .i64 k ∧ wr.ownsRow w2.heap.size 9 1 v k ((T k).map Value.string) ∧ Below w2.heap.size w2 wr) (fun _ i _ => 65534 - (intOf i).toNat)
  case atStart => exact ⟨0, Nat.zero_le _, rfl, World.ownsRow_nil _ _ _ _, Below.refl _ _⟩
  case round =>
    obtain ⟨k, hk, rfl, hrow, hbe⟩ := hrel
    have HBE := Lib.hid hbe
    have hzr := hbe.size
    clear hbe
    by_cases hlt : k < 65534
    · have HROW := Lib.hid hrow
      clear hrow
      have hlt' : (k : Int) < 65534 := by omega
      go_wp2_with fail
      refine (itoa_any k (by omega) _ ((HTAB.out.below HB2.out).below HBE.out)).mono ?_
      rintro e w3 ⟨rfl, hb3⟩
      have HB3 := Lib.hid hb3
      have hz3' := hb3.size
      have hrow3 := HROW.out.kept (w' := w3) (row := none) ⟨hb3.os, hb3.tape, hb3.output, hb3.size, fun i hi _ => hb3.block i hi⟩ (by cases hv : Value.ownBlock _ <;> simp)
      obtain ⟨s, hs⟩ : ∃ s, tx k = s := ⟨_, rfl⟩
      have HS := Lib.hid hs
      rw [hs]
      clear hb3 hs
      go_wp2_with (at_builtin; refine wpList_append_own_at _ rfl _ _ 25 rfl w2.heap.size 9 i0 (.string ⟨#[]⟩) 1 16 Tryd.underlying25 hi hz0 hz1 hz3 rfl (by decide) _ _ _ rfl (hrow3.alloc _) ⟨w3.heap.size, 0, none⟩ 1 1 [.string s] rfl rfl (cell_one_new _ _ _) (by simp [Value.oneCell']) (by unfold maxLen; omega) (by omega) (by simp; omega) ?_; intro v' w4 hown' hgrow hnil hloc)
      go_roundw
      case rel =>
        refine ⟨k + 1, by omega, by go_num, ?_, ?_⟩
        · rw [T_succ, HS.out]
          simpa using hown'
        · have hb4 : Below w2.heap.size w2 w3 := HBE.out.trans (HB3.out.mono hzr)
          exact (hb4.alloc (by omega) _).grown hgrow (by simp; omega) (fun g hg => (hrow3.lt g hg).1)
      case measure => simp [intOf]; omega
    · obtain rfl : k = 65534 := by omega
      have HF := Lib.hid full_T
      have HSR := Lib.hid (SR.of_own hrow)
      have HOFF := Lib.hid (fun g (hg : Value.ownBlock _ = some g) => HO2.out.bk.off (hrow.lt g hg).1)
      have HLIM := Lib.hid (T_take_size 65534 (by omega))
      have HBK0 := Lib.hid book0
      have HFIT0 := Lib.hid fit0
      have HTL := Lib.hid (T_len 65534)
      clear hrow
      generalize T 65534 = L0 at HF HSR HOFF HLIM HBK0 HFIT0 HTL
      go_wp2_with fail
      refine (of_yes (HO2.out.below HBE.out) (by have := HB2.out.size; omega) _ L0 HSR.out (fun _ g hg => HOFF.out g hg) HLIM.out (by rw [HTL.out]; omega) HFIT0.out).mono ?_
      rintro e w3 ⟨v1, sv3, rfl, _, ho3, hb3, _, hk3⟩
      rw [HBK0.out] at ho3
      have HO3 := Lib.hid ho3
      have hz3 := hk3.size
      have HB3 := Lib.hid ((HB2.out.trans (HBE.out.mono HB2.out.size)).trans hb3)
      clear ho3 hb3 hk3
      go_wp2_with fail
      refine (of_no ((HO3.out.bk.below ((Below.refl _ _).alloc (Nat.le_refl _) _))) _ [tA, tB, tA, tC] (SR.lit w3 [tA, tB, tA, tC] _ rfl 9) (fun _ g hg => by simp [Value.ownBlock] at hg; subst hg; exact HO3.out.bk.off (Nat.le_refl _)) (by decide) (by rw [HTL.out]; omega) (by decide) HF.out.big1).mono ?_
      rintro e w4 ⟨rfl, hb4⟩
      have HO4 := Lib.hid ((HO3.out.below ((Below.refl _ _).alloc (Nat.le_refl _) _)).below hb4)
      have hz4 : w3.heap.size < w4.heap.size := by have := hb4.size; simp at this; omega
      have hsz3 := HB3.out.size
      have HB4 := Lib.hid ((HB3.out.alloc hsz3 _).trans (hb4.mono (by simp; omega)))
      clear hb4
      go_wp2_with fail
      refine (len_any HO4.out.bk).mono ?_
      rintro e w' ⟨rfl, rfl⟩
      rw [HTL.out]
      go_wp2_with fail
      refine (of_yes (HO4.out.below ((Below.refl _ _).alloc (Nat.le_refl _) _)) (by simp; omega) _ [tA, t7, tA, tB] (SR.lit w4 [tA, t7, tA, tB] _ rfl 9) (fun _ g hg => by simp [Value.ownBlock] at hg; subst hg; exact HO4.out.bk.off (Nat.le_refl _)) (by decide) (by decide) HF.out.fit2).mono ?_
      rintro e w5 ⟨v2, sv5, rfl, hr5, ho5, hb5, _, hk5⟩
      rw [HF.out.book2] at ho5
      rw [HF.out.nums2] at hr5
      have HI5 := Lib.hid (IR.of_own hr5)
      have HF5 := Lib.hid (ho5.bk.off_row hr5)
      have HO5 := Lib.hid ho5
      have hz5 : w4.heap.size < w5.heap.size := by have := hk5.size; simp at this; omega
      have HB5 := Lib.hid ((HB4.out.alloc (by omega) _).trans hb5)
      clear hr5 ho5 hb5 hk5
      go_wp2_with fail
      refine (of_no ((HO5.out.bk.below ((Below.refl _ _).alloc (Nat.le_refl _) _))) _ [tA, tD] (SR.lit w5 [tA, tD] _ rfl 9) (fun _ g hg => by simp [Value.ownBlock] at hg; subst hg; exact HO5.out.bk.off (Nat.le_refl _)) (by decide) (by rw [HF.out.len1]; omega) (by decide) HF.out.big3).mono ?_
      rintro e w6 ⟨rfl, hb6⟩
      have HO6 := Lib.hid ((HO5.out.below ((Below.refl _ _).alloc (Nat.le_refl _) _)).below hb6)
      have HI6 := Lib.hid ((HI5.out.below ((Below.refl _ _).alloc (Nat.le_refl _) _)).below hb6)
      have hz6 : w5.heap.size < w6.heap.size := by have := hb6.size; simp at this; omega
      have HB6 := Lib.hid ((HB5.out.alloc (by omega) _).trans (hb6.mono (by simp; omega)))
      clear hb6
      go_wp2_with fail
      refine (of_yes (HO6.out.below ((Below.refl _ _).alloc (Nat.le_refl _) _)) (by simp; omega) _ [tB, t0] (SR.lit w6 [tB, t0] _ rfl 9) (fun _ g hg => by simp [Value.ownBlock] at hg; subst hg; exact HO6.out.bk.off (Nat.le_refl _)) (by decide) (by decide) HF.out.fit4).mono ?_
      rintro e w7 ⟨v3, sv7, rfl, hr7, ho7, hb7, _, hk7⟩
      rw [HF.out.book4] at ho7
      rw [HF.out.nums4] at hr7
      have HI7 := Lib.hid (IR.of_own hr7)
      have HI57 := Lib.hid ((HI6.out.below ((Below.refl _ _).alloc (Nat.le_refl _) _)).keep hk7 (fun g hg _ => HF5.out g hg))
      have HO7 := Lib.hid ho7
      have hz7 : w6.heap.size < w7.heap.size := by have := hk7.size; simp at this; omega
      have HB7 := Lib.hid ((HB6.out.alloc (by omega) _).trans hb7)
      clear hr7 ho7 hb7 hk7
      go_wp2_with fail
      refine (sameI_any _ _ [65534, 7, 65534, 65535] [65534, 7, 65534, 65535] _ (HI57.out.below ((Below.refl _ _).alloc (Nat.le_refl _) _)) (IR.lit w7 [65534, 7, 65534, 65535] _ rfl 3) (by decide)).mono ?_
      rintro e w8 ⟨rfl, hb8⟩
      rw [decide_eq_true rfl]
      have HB8 := Lib.hid hb8
      have hz8 : w7.heap.size < w8.heap.size := by have := hb8.size; simp at this; omega
      clear hb8
      go_wp2_with fail
      refine (sameI_any _ _ [65535, 0] [65535, 0] _ (((HI7.out.below ((Below.refl _ _).alloc (Nat.le_refl _) _)).below HB8.out).below ((Below.refl _ _).alloc (Nat.le_refl _) _)) (IR.lit w8 [65535, 0] _ rfl 3) (by decide)).mono ?_
      rintro e w9 ⟨rfl, hb9⟩
      rw [decide_eq_true rfl]
      have HB9 := Lib.hid hb9
      have hz9 : w8.heap.size < w9.heap.size := by have := hb9.size; simp at this; omega
      clear hb9
      go_wp2_with fail
      refine (len_any ((((HO7.out.below ((Below.refl _ _).alloc (Nat.le_refl _) _)).below HB8.out).below ((Below.refl _ _).alloc (Nat.le_refl _) _)).below HB9.out).bk).mono ?_
      rintro e w' ⟨rfl, rfl⟩
      rw [HF.out.len1]
      go_wp2_with fail
      go_ret
      exact ⟨rfl, ((((HB7.out.alloc (by omega) _).trans (HB8.out.mono (by simp; omega))).alloc (by omega) _).trans (HB9.out.mono (by simp; omega)))⟩
end Go.Proofs.YtepelfigcoohiaaDoor
