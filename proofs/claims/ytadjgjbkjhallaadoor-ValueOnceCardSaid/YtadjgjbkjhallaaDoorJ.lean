/- Walks of what shows a value. -/
import Derived.Test.YtadjgjbkjhallaaDoorH
import Derived.Lib.LaidTab
import Derived.Lib.AppendIntMem
namespace Go.Proofs.YtadjgjbkjhallaaDoor
open Go.ChangeShapes Go.WideShapes Go.ChangeAt Go.RowKit
set_option linter.unusedVariables false

/-- what the library's variables hold -/
structure Tb (w : World) : Prop where
  tab : Lib.TabIs Tryd.prog w "internal/strconv.uint64pow10" .u64 Lib.pow10Tab
  syn : ∃ tp p, w.var? Tryd.prog "strconv.ErrSyntax" = some #[.iface tp p]
  rng : ∃ tp p, w.var? Tryd.prog "strconv.ErrRange" = some #[.iface tp p]
theorem var_below {w w' : World} {s : String} {x : Array Value} (h : w.var? Tryd.prog s = some x) (hb : Below w.heap.size w w') : w'.var? Tryd.prog s = some x := by
  unfold World.var? at *
  cases hg : Tryd.prog.globalNamed s with
  | none => simp [hg] at h
  | some g =>
    simp only [hg, Option.bind_some] at h ⊢
    have hlt : g < w.heap.size := by
      rcases Nat.lt_or_ge g w.heap.size with h' | h'
      · exact h'
      · rw [Array.getElem?_eq_none h'] at h; simp at h
    rw [hb.block g hlt]
    exact h
theorem Tb.below {w w' : World} (h : Tb w) (hb : Below w.heap.size w w') : Tb w' :=
  ⟨Lib.tabBelow_of_tabIs h.tab w' hb, let ⟨tp, p, e⟩ := h.syn; ⟨tp, p, var_below e hb⟩, let ⟨tp, p, e⟩ := h.rng; ⟨tp, p, var_below e hb⟩⟩

theorem itoa_any (n : Int) (h0 : -1099511627776 ≤ n) (h1 : n ≤ 1099511627776) (w : World) (h : Tb w) : Calls Tryd.prog 34 #[.int .i64 n] w fun e w' => e = .returned (.string (itoaB n)) ∧ Below w.heap.size w w' := by
  refine (Tryd.strconv_Itoa n (by omega) (by omega) w h.tab).mono ?_
  rintro e w' ⟨rfl, a, os, rfl⟩
  exact ⟨rfl, Lib.below_grow _ w (Nat.le_refl _) a os⟩

theorem catq (t : ByteArray) : (⟨#[34]⟩ : ByteArray) ++ t ++ ⟨#[34]⟩ = ⟨(34 :: (t.data.toList ++ [34])).toArray⟩ := by
  apply ByteArray.ext
  apply Array.ext'
  simp [ByteArray.data_append]

def ShowR (v : Vt) (w : World) (e : Ending) (w' : World) : Prop := e = .returned (.tuple #[.string (showV v).1, .int .i64 (showV v).2]) ∧ Below w.heap.size w w'

set_option maxHeartbeats 1000000 in
theorem show_any (v : Vt) (w : World) (hm : v.2.2.size ≤ 281474976710656) (htab : Tb w) : Calls Tryd.prog 17 #[.agg #[.int .i64 v.1, .int .i64 v.2.1, .string v.2.2]] w (ShowR v w) := by
  unfold ShowR
  have HT := Lib.hid htab
  clear htab
  have hrt := fun W => right_any v W hm
  unfold RightR at hrt
  have HN := Lib.hid (Bx.new w (.int .i64 v.1) (.int .i64 v.2.1) (.string v.2.2) 25)
  have HL := Lib.hid ((Below.refl _ w).alloc (Nat.le_refl _) (.cells #[.int .i64 v.1, .int .i64 v.2.1, .string v.2.2] 25))
  cases hr : rightV v with
  | false =>
    have HE := Lib.hid (show showV v = (⟨#[]⟩, 2) by unfold showV; rw [hr]; rfl)
    rw [HE.out]
    rw [hr] at hrt
    have HR := Lib.hid hrt
    obtain ⟨k, n, t⟩ := v
    clear hrt hr
    go_enter Tryd.func17, Tryd.ntmps17
    go_wp2_with (go_at_call 12; refine (HR.out _).mono ?_; rintro e w1 ⟨rfl, hg⟩)
    go_ret2
    exact ⟨rfl, HL.out.trans (hg.below.mono (by simp))⟩
  | true =>
    have HE := Lib.hid (show showV v = (showB v, 0) by unfold showV; rw [hr]; rfl)
    rw [HE.out]
    rw [hr] at hrt
    have HR := Lib.hid hrt
    clear hrt
    rcases right_cases hr with ⟨n, rfl, h1, h2⟩ | ⟨t, rfl, ht⟩
    · have HS := Lib.hid (show showB (1, n, ⟨#[]⟩) = itoaB n by unfold showB; rw [if_pos rfl])
      clear hr
      go_enter Tryd.func17, Tryd.ntmps17
      go_wp2_with fail
      refine (HR.out _).mono ?_
      rintro e w1 ⟨rfl, hg⟩
      have hb := hg.below
      obtain ⟨q0, q1, q2, f0, f1, f2⟩ := HN.out.below hb (by simp)
      have HB := Lib.hid (HL.out.trans (hb.mono (by simp)))
      obtain ⟨A, hA⟩ : ∃ A, w.heap.size = A := ⟨_, rfl⟩
      rw [hA] at q0 q1 q2
      clear f0 f1 f2 hb hg
      go_wp2_with fail
      refine (itoa_any n h1 h2 _ (HT.out.below HB.out)).mono ?_
      rintro e w2 ⟨rfl, hb2⟩
      go_wp2_with fail
      go_ret2
      exact ⟨by rw [HS.out]; rfl, HB.out.trans (hb2.mono HB.out.size)⟩
    · have ht40 : t.size ≤ 40 := by unfold isT at ht; rw [Bool.and_eq_true, decide_eq_true_eq] at ht; exact ht.1
      have HS := Lib.hid (show showB (2, 0, t) = (⟨#[34]⟩ : ByteArray) ++ t ++ ⟨#[34]⟩ by unfold showB; rw [if_neg (show ¬ (2 : Int) = 1 by decide), catq])
      have hcz : ((⟨#[34]⟩ : ByteArray) ++ t).size ≤ 41 := by rw [ByteArray.size_append]; show 1 + t.size ≤ 41; omega
      clear hr ht
      go_enter Tryd.func17, Tryd.ntmps17
      go_wp2_with fail
      refine (HR.out _).mono ?_
      rintro e w1 ⟨rfl, hg⟩
      have hb := hg.below
      obtain ⟨q0, q1, q2, f0, f1, f2⟩ := HN.out.below hb (by simp)
      have HB := Lib.hid (HL.out.trans (hb.mono (by simp)))
      obtain ⟨A, hA⟩ : ∃ A, w.heap.size = A := ⟨_, rfl⟩
      rw [hA] at q0 q1 q2
      clear f0 f1 f2 hb hg
      go_wp2_with fail
      go_ret2
      exact ⟨by rw [HS.out]; rfl, HB.out⟩
end Go.Proofs.YtadjgjbkjhallaaDoor
