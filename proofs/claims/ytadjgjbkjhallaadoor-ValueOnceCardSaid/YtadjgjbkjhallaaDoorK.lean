/- Walks of what parses. -/
import Derived.Test.YtadjgjbkjhallaaDoorJ
import Derived.Lib.AtoiErrMem
import Derived.Lib.AtoiAllMem
import Derived.Laws.DeepStrings4
namespace Go.Proofs.YtadjgjbkjhallaaDoor
open Go.ChangeShapes Go.WideShapes Go.ChangeAt Go.RowKit
set_option linter.unusedVariables false

set_option maxHeartbeats 1000000 in
theorem rShow_any (v : Vt) (w : World) (hm : v.2.2.size ≤ 281474976710656) (htab : Tb w) : Calls Tryd.prog 18 #[.agg #[.int .i64 v.1, .int .i64 v.2.1, .string v.2.2]] w (ShowR v w) := by
  unfold ShowR
  have HT := Lib.hid htab
  clear htab
  have hrt := fun W => rRight_any v W hm
  unfold RightR at hrt
  have HN := Lib.hid (Bx.new w (.int .i64 v.1) (.int .i64 v.2.1) (.string v.2.2) 25)
  have HL := Lib.hid ((Below.refl _ w).alloc (Nat.le_refl _) (.cells #[.int .i64 v.1, .int .i64 v.2.1, .string v.2.2] 25))
  cases hr : rightV v with
  | false =>
    have HE := Lib.hid (show showV v = (⟨#[]⟩, 2) by unfold showV; rw [hr]; rfl)
    rw [HE.out]
    rw [hr] at hrt
    have HR := Lib.hid hrt
    obtain ⟨k, n, t⟩ := v
    clear hrt hr
    go_enter Tryd.func18, Tryd.ntmps18
    go_wp2_with (go_at_call 13; refine (HR.out _).mono ?_; rintro e w1 ⟨rfl, hg⟩)
    go_ret2
    exact ⟨rfl, HL.out.trans (hg.below.mono (by simp))⟩
  | true =>
    have HE := Lib.hid (show showV v = (showB v, 0) by unfold showV; rw [hr]; rfl)
    rw [HE.out]
    rw [hr] at hrt
    have HR := Lib.hid hrt
    clear hrt
    rcases right_cases hr with ⟨n, rfl, h1, h2⟩ | ⟨t, rfl, ht⟩
    · have HS := Lib.hid (show showB (1, n, ⟨#[]⟩) = itoaB n by unfold showB; rw [if_pos rfl])
      clear hr
      go_enter Tryd.func18, Tryd.ntmps18
      go_wp2_with fail
      refine (HR.out _).mono ?_
      rintro e w1 ⟨rfl, hg⟩
      have hb := hg.below
      obtain ⟨q0, q1, q2, f0, f1, f2⟩ := HN.out.below hb (by simp)
      have HB := Lib.hid (HL.out.trans (hb.mono (by simp)))
      obtain ⟨A, hA⟩ : ∃ A, w.heap.size = A := ⟨_, rfl⟩
      rw [hA] at q0 q1 q2
      clear f0 f1 f2 hb hg
      go_wp2_with fail
      refine (itoa_any n h1 h2 _ (HT.out.below HB.out)).mono ?_
      rintro e w2 ⟨rfl, hb2⟩
      go_wp2_with fail
      go_ret2
      exact ⟨by rw [HS.out]; rfl, HB.out.trans (hb2.mono HB.out.size)⟩
    · have ht40 : t.size ≤ 40 := by unfold isT at ht; rw [Bool.and_eq_true, decide_eq_true_eq] at ht; exact ht.1
      have HS := Lib.hid (show showB (2, 0, t) = (⟨#[34]⟩ : ByteArray) ++ t ++ ⟨#[34]⟩ by unfold showB; rw [if_neg (show ¬ (2 : Int) = 1 by decide), catq])
      have hcz : ((⟨#[34]⟩ : ByteArray) ++ t).size ≤ 41 := by rw [ByteArray.size_append]; show 1 + t.size ≤ 41; omega
      clear hr ht
      go_enter Tryd.func18, Tryd.ntmps18
      go_wp2_with fail
      refine (HR.out _).mono ?_
      rintro e w1 ⟨rfl, hg⟩
      have hb := hg.below
      obtain ⟨q0, q1, q2, f0, f1, f2⟩ := HN.out.below hb (by simp)
      have HB := Lib.hid (HL.out.trans (hb.mono (by simp)))
      obtain ⟨A, hA⟩ : ∃ A, w.heap.size = A := ⟨_, rfl⟩
      rw [hA] at q0 q1 q2
      clear f0 f1 f2 hb hg
      go_wp2_with fail
      go_ret2
      exact ⟨by rw [HS.out]; rfl, HB.out⟩

theorem numG_bounds (s : ByteArray) : -9223372036854775808 ≤ numG s ∧ numG s ≤ 9223372036854775807 := by
  unfold numG
  split
  · rename_i h; exact Lib.atoiAll_bounds h
  · exact Lib.atoiSat_bounds _
  · omega

theorem atoi_any (s : ByteArray) (w : World) (hm : s.size ≤ 281474976710656) (htab : Tb w) : Calls Tryd.prog 46 #[.string s] w fun e w' => ∃ ev, e = .returned (.tuple #[.int .i64 (numG s), ev]) ∧ Below w.heap.size w w' := by
  rcases h : Lib.atoiAll s.data.toList with v | _ | _
  · have hn : numG s = v := by unfold numG; rw [h]
    rw [hn]
    refine (Any.strconv_Atoi_ok Tryd.laysC172 s (by omega) v h w).mono ?_
    rintro e w' ⟨rfl, hw⟩
    refine ⟨_, rfl, ?_⟩
    rcases hw with rfl | ⟨t, rfl⟩
    · exact Below.refl _ _
    · exact Lib.bytesWorld_below _ _ _
  · have hn : numG s = 0 := by unfold numG; rw [h]
    rw [hn]
    obtain ⟨tp, p, e⟩ := htab.syn
    refine (Any.strconv_Atoi_syntax_var Tryd.laysC172 s hm h tp p w e).mono ?_
    rintro e w' ⟨N, rfl, _, _, hb⟩
    exact ⟨_, rfl, hb⟩
  · have hn : numG s = Lib.atoiSat s.data.toList := by unfold numG; rw [h]
    rw [hn]
    obtain ⟨tp, p, e⟩ := htab.rng
    refine (Any.strconv_Atoi_range_var Tryd.laysC172 s hm h tp p w e).mono ?_
    rintro e w' ⟨N, rfl, _, _, hb⟩
    exact ⟨_, rfl, hb⟩

theorem mid_eq {s : ByteArray} {p : Nat} (h : 1 ≤ s.size) (hp : (s.size : Int) - 1 = (p : Int)) : s.extract 1 p = midB s := by
  apply ByteArray.ext
  apply Array.ext'
  unfold midB
  rw [ByteArray.data_extract, Array.toList_extract, List.extract_eq_take_drop]
  rw [show p - 1 = s.size - 2 by omega]

def GuessR (s : ByteArray) (w : World) (e : Ending) (w' : World) : Prop := e = .returned (.agg #[.int .i64 (guessV s).1, .int .i64 (guessV s).2.1, .string (guessV s).2.2]) ∧ Below w.heap.size w w'

theorem ext_size (s : ByteArray) (a b : Nat) : (s.extract a b).size ≤ s.size := by rw [ByteArray.size_extract]; omega

set_option maxHeartbeats 2000000 in
set_option maxRecDepth 100000 in
theorem guess_num (s : ByteArray) (w : World) (hm : s.size ≤ 281474976710656) (htab : Tb w) (hc : ¬ (2 ≤ s.size ∧ s.data[0]? = some 34)) : Calls Tryd.prog 35 #[.string s] w (GuessR s w) := by
  unfold GuessR
  have HT := Lib.hid htab
  clear htab
  have HN := Lib.hid (Bx.new w (.int .i64 0) (.int .i64 0) (.string ⟨#[]⟩) 25)
  have HL := Lib.hid ((Below.refl _ w).alloc (Nat.le_refl _) (.cells #[.int .i64 0, .int .i64 0, .string ⟨#[]⟩] 25))
  have HE := Lib.hid (show guessV s = (1, numG s, ⟨#[]⟩) by unfold guessV; rw [if_neg hc])
  rw [HE.out]
  obtain ⟨b1, b2⟩ := numG_bounds s
  by_cases h2 : 2 ≤ s.size
  · have h0 : 0 < s.size := by omega
    have hd0 : s.data[0]? = some s[0] := by
      have : 0 < s.data.size := h0
      rw [Array.getElem?_eq_getElem this]
      rfl
    have hq' : ((s[0].toNat : Int) == 34) = false := by
      rw [beq_eq_false_iff_ne]
      intro e
      refine hc ⟨h2, by rw [hd0]; congr 1; apply UInt8.toNat_inj.1; have e : (34 : UInt8).toNat = 34 := rfl; omega⟩
    obtain ⟨p, hp⟩ : ∃ p : Nat, (s.size : Int) - 1 = (p : Int) := ⟨s.size - 1, by omega⟩
    have hp0 : 0 < p := by omega
    clear hc hd0
    go_enter Tryd.func35, Tryd.ntmps35
    go_wp2_with fail
    refine (atoi_any s _ hm (HT.out.below HL.out)).mono ?_
    rintro e w1 ⟨ev, rfl, hb⟩
    have hx := HN.out.below hb (by simp)
    have HB := Lib.hid (HL.out.trans (hb.mono (by simp)))
    have HX := Lib.hid hx
    have hlt : w.heap.size < w1.heap.size := by have := hb.size; simp at this; omega
    obtain ⟨A, hA⟩ : ∃ A, w.heap.size = A := ⟨_, rfl⟩
    have HA := Lib.hid hA
    rw [hA] at hx hlt ⊢
    clear hb hA
    go_wp2_with fail
    refine (num_any (numG s) _).mono ?_
    rintro e w2 ⟨rfl, hb2⟩
    obtain ⟨q0, q1, q2, f0, f1, f2⟩ := hx.below hb2 hlt
    have hlow : Below A w w2 := by have h := HB.out; rw [HA.out] at h; exact h.trans (hb2.mono (by omega))
    have HLOW := Lib.hid hlow
    clear hb2 hx hlow
    go_wp2_with fail
    refine bodyPost_ret (v := .agg #[.int .i64 1, .int .i64 (numG s), .string ⟨#[]⟩]) (by simp [results, Tryd.results35, go_sem, q0, q1, q2, f0, f1, f2]) rfl ⟨rfl, ?_⟩
    have hlow := HLOW.out
    rw [HA.out]
    go_grown
  · have hs1 : (s.size : Int) - 1 ≤ 0 := by omega
    clear hc
    go_enter Tryd.func35, Tryd.ntmps35
    go_wp2_with fail
    refine (atoi_any s _ hm (HT.out.below HL.out)).mono ?_
    rintro e w1 ⟨ev, rfl, hb⟩
    have hx := HN.out.below hb (by simp)
    have HB := Lib.hid (HL.out.trans (hb.mono (by simp)))
    have HX := Lib.hid hx
    have hlt : w.heap.size < w1.heap.size := by have := hb.size; simp at this; omega
    obtain ⟨A, hA⟩ : ∃ A, w.heap.size = A := ⟨_, rfl⟩
    have HA := Lib.hid hA
    rw [hA] at hx hlt ⊢
    clear hb hA
    go_wp2_with fail
    refine (num_any (numG s) _).mono ?_
    rintro e w2 ⟨rfl, hb2⟩
    obtain ⟨q0, q1, q2, f0, f1, f2⟩ := hx.below hb2 hlt
    have hlow : Below A w w2 := by have h := HB.out; rw [HA.out] at h; exact h.trans (hb2.mono (by omega))
    have HLOW := Lib.hid hlow
    clear hb2 hx hlow
    go_wp2_with fail
    refine bodyPost_ret (v := .agg #[.int .i64 1, .int .i64 (numG s), .string ⟨#[]⟩]) (by simp [results, Tryd.results35, go_sem, q0, q1, q2, f0, f1, f2]) rfl ⟨rfl, ?_⟩
    have hlow := HLOW.out
    rw [HA.out]
    go_grown

set_option maxHeartbeats 2000000 in
set_option maxRecDepth 100000 in
theorem guess_text (s : ByteArray) (w : World) (hm : s.size ≤ 281474976710656) (hc : 2 ≤ s.size ∧ s.data[0]? = some 34) : Calls Tryd.prog 35 #[.string s] w (GuessR s w) := by
  unfold GuessR
  have HN := Lib.hid (Bx.new w (.int .i64 0) (.int .i64 0) (.string ⟨#[]⟩) 25)
  have HL := Lib.hid ((Below.refl _ w).alloc (Nat.le_refl _) (.cells #[.int .i64 0, .int .i64 0, .string ⟨#[]⟩] 25))
  have HE := Lib.hid (show guessV s = (2, 0, midB s) by unfold guessV; rw [if_pos hc])
  rw [HE.out]
  obtain ⟨h2, hq⟩ := hc
  have h0 : 0 < s.size := by omega
  have hd0 : s.data[0]? = some s[0] := by
    have : 0 < s.data.size := h0
    rw [Array.getElem?_eq_getElem this]
    rfl
  have hq' : ((s[0].toNat : Int) == 34) = true := by
    rw [hd0] at hq
    injection hq with hq
    rw [beq_iff_eq]
    have e : (34 : UInt8).toNat = 34 := rfl
    rw [hq, e]
    rfl
  obtain ⟨p, hp⟩ : ∃ p : Nat, (s.size : Int) - 1 = (p : Int) := ⟨s.size - 1, by omega⟩
  have hp0 : 1 ≤ p := by omega
  have hp1 : p ≤ s.size := by omega
  have HM := Lib.hid (mid_eq (by omega) hp)
  clear hq hd0
  go_enter Tryd.func35, Tryd.ntmps35
  go_wp2_with fail
  refine (text_any (s.extract 1 p) _ (Nat.le_trans (ext_size _ _ _) hm)).mono ?_
  rintro e w1 ⟨rfl, hb⟩
  obtain ⟨q0, q1, q2, f0, f1, f2⟩ := HN.out.below hb (by simp)
  have HB := Lib.hid (HL.out.trans (hb.mono (by simp)))
  obtain ⟨A, hA⟩ : ∃ A, w.heap.size = A := ⟨_, rfl⟩
  have HA := Lib.hid hA
  rw [hA] at q0 q1 q2 f0 f1 f2 ⊢
  clear hb hA
  go_wp2_with fail
  refine bodyPost_ret (v := .agg #[.int .i64 2, .int .i64 0, .string (s.extract 1 p)]) (by simp [results, Tryd.results35, go_sem, q0, q1, q2, f0, f1, f2]) rfl ⟨by rw [HM.out], ?_⟩
  have hlow := HB.out
  rw [HA.out] at hlow ⊢
  go_grown
end Go.Proofs.YtadjgjbkjhallaaDoor
