/- Walks of the document's parsing, of what holds it against the program's. -/
import Derived.Test.YtadjgjbkjhallaaDoorR
namespace Go.Proofs.YtadjgjbkjhallaaDoor
open Go.ChangeShapes Go.WideShapes Go.ChangeAt Go.RowKit
set_option linter.unusedVariables false

theorem number_any (s : ByteArray) (w : World) (hm : s.size ≤ 281474976710656) : Calls Tryd.prog 36 #[.string s] w (NumR s w) := by
  by_cases hz : s = ⟨#[48]⟩
  · subst hz; exact number_zero w
  · by_cases hn : s.data[0]? = some 45
    · exact number_neg s w hm hn
    · exact number_plain s w hm hn hz

def RParR (s : ByteArray) (w : World) (e : Ending) (w' : World) : Prop := e = .returned (.tuple #[.agg #[.int .i64 (refParse s).1.1, .int .i64 (refParse s).1.2.1, .string (refParse s).1.2.2], .int .i64 (refParse s).2]) ∧ Below w.heap.size w w'

theorem at_some {s : ByteArray} {k : Nat} (h : k < s.size) : s.data[k]? = some s[k] := by
  have h1 : k < s.data.size := h
  rw [Array.getElem?_eq_getElem h1]
  rfl
theorem u8_34 {c : UInt8} : ((c.toNat : Int) == 34) = true ↔ c = 34 := by
  rw [beq_iff_eq]
  have e : (34 : UInt8).toNat = 34 := rfl
  constructor
  · intro h; apply UInt8.toNat_inj.1; omega
  · rintro rfl; rfl

set_option maxHeartbeats 4000000 in
set_option maxRecDepth 100000 in
theorem rParse_text (s : ByteArray) (w : World) (hm : s.size ≤ 281474976710656) (hc : 2 ≤ s.size ∧ s.data[0]? = some 34 ∧ s.data[s.size - 1]? = some 34) : Calls Tryd.prog 20 #[.string s] w (RParR s w) := by
  unfold RParR
  have HN := Lib.hid (Bx.new w (.int .i64 0) (.int .i64 0) (.string ⟨#[]⟩) 25)
  have HL := Lib.hid ((Below.refl _ w).alloc (Nat.le_refl _) (.cells #[.int .i64 0, .int .i64 0, .string ⟨#[]⟩] 25))
  have hP : refParse s = if rightV (2, 0, midB s) = true then ((2, 0, midB s), 0) else ((0, 0, ⟨#[]⟩), 7) := by unfold refParse; rw [if_pos hc]
  obtain ⟨h2, ha, hb⟩ := hc
  have h0 : 0 < s.size := by omega
  obtain ⟨p, hp⟩ : ∃ p : Nat, (s.size : Int) - 1 = (p : Int) := ⟨s.size - 1, by omega⟩
  have hp1 : 1 ≤ p := by omega
  have hps : p < s.size := by omega
  have hpe : s.size - 1 = p := by omega
  rw [hpe, at_some hps] at hb
  rw [at_some h0] at ha
  injection ha with ha
  injection hb with hb
  have ha' := u8_34.2 ha
  have hb' := u8_34.2 hb
  have hmid := mid_eq (by omega) hp
  rw [← hmid] at hP
  have hsz : (s.extract 1 p).size ≤ 281474976710656 := Nat.le_trans (ext_size _ _ _) hm
  have hrt := fun W => rRight_any (2, 0, s.extract 1 p) W hsz
  unfold RightR at hrt
  clear ha hb hmid hpe
  cases hr : rightV (2, 0, s.extract 1 p) with
  | true =>
    rw [hr] at hP hrt
    rw [if_pos rfl] at hP
    rw [hP]
    have HR := Lib.hid hrt
    clear hr hrt hP
    go_enter Tryd.func20, Tryd.ntmps20
    go_upto_region 3 with (fail)
    have hx := HN.out.below ((Below.refl _ (w.alloc (.cells #[.int .i64 0, .int .i64 0, .string ⟨#[]⟩] 25))).alloc (Nat.le_refl _) (.cells #[.int .i64 2, .int .i64 0, .string (s.extract 1 p)] 25)) (by simp)
    have hv := Bx.new (w.alloc (.cells #[.int .i64 0, .int .i64 0, .string ⟨#[]⟩] 25)) (.int .i64 2) (.int .i64 0) (.string (s.extract 1 p)) 25
    have hl := HL.out.alloc HL.out.size (.cells #[.int .i64 2, .int .i64 0, .string (s.extract 1 p)] 25)
    have hz : ((w.alloc (.cells #[.int .i64 0, .int .i64 0, .string ⟨#[]⟩] 25)).alloc (.cells #[.int .i64 2, .int .i64 0, .string (s.extract 1 p)] 25)).heap.size = w.heap.size + 2 := by simp
    rw [World.size_alloc] at hv
    generalize (w.alloc (.cells #[.int .i64 0, .int .i64 0, .string ⟨#[]⟩] 25)).alloc (.cells #[.int .i64 2, .int .i64 0, .string (s.extract 1 p)] 25) = w1 at hx hv hl hz ⊢
    obtain ⟨A, hA⟩ : ∃ A, w.heap.size = A := ⟨_, rfl⟩
    have HA := Lib.hid hA
    rw [hA] at hx hv hl hz ⊢
    obtain ⟨r0, r1, r2, _, _, _⟩ := hv
    have HX := Lib.hid hx
    have HV := Lib.hid (And.intro r0 (And.intro r1 r2))
    have HLW := Lib.hid hl
    clear hA hx hl
    go_wp2_with fail
    refine (HR.out _).mono ?_
    rintro e w2 ⟨rfl, hg⟩
    have hb2 := hg.below
    obtain ⟨q0, q1, q2, f0, f1, f2⟩ := HX.out.below hb2 (by omega)
    have k0 := (hb2.cell (p := ⟨A + 1, 0, none⟩) (by show A + 1 < _; omega)).trans HV.out.1
    have k1 := (hb2.cell (p := ⟨A + 1, 1, none⟩) (by show A + 1 < _; omega)).trans HV.out.2.1
    have k2 := (hb2.cell (p := ⟨A + 1, 2, none⟩) (by show A + 1 < _; omega)).trans HV.out.2.2
    have HLW2 := Lib.hid (HLW.out.trans (hb2.mono (by omega)))
    clear hg hb2 r0 r1 r2 hz
    go_wp2_with fail
    refine bodyPost_ret (v := .tuple #[.agg #[.int .i64 2, .int .i64 0, .string (s.extract 1 p)], .int .i64 0]) (by simp [results, Tryd.results20, go_sem, q0, q1, q2, f0, f1, f2]) rfl ⟨rfl, ?_⟩
    have hlow := HLW2.out
    rw [HA.out]
    go_grown
  | false =>
    rw [hr] at hP hrt
    rw [if_neg (by decide)] at hP
    rw [hP]
    have HR := Lib.hid hrt
    clear hr hrt hP
    go_enter Tryd.func20, Tryd.ntmps20
    go_upto_region 3 with (fail)
    have hx := HN.out.below ((Below.refl _ (w.alloc (.cells #[.int .i64 0, .int .i64 0, .string ⟨#[]⟩] 25))).alloc (Nat.le_refl _) (.cells #[.int .i64 2, .int .i64 0, .string (s.extract 1 p)] 25)) (by simp)
    have hv := Bx.new (w.alloc (.cells #[.int .i64 0, .int .i64 0, .string ⟨#[]⟩] 25)) (.int .i64 2) (.int .i64 0) (.string (s.extract 1 p)) 25
    have hl := HL.out.alloc HL.out.size (.cells #[.int .i64 2, .int .i64 0, .string (s.extract 1 p)] 25)
    have hz : ((w.alloc (.cells #[.int .i64 0, .int .i64 0, .string ⟨#[]⟩] 25)).alloc (.cells #[.int .i64 2, .int .i64 0, .string (s.extract 1 p)] 25)).heap.size = w.heap.size + 2 := by simp
    rw [World.size_alloc] at hv
    generalize (w.alloc (.cells #[.int .i64 0, .int .i64 0, .string ⟨#[]⟩] 25)).alloc (.cells #[.int .i64 2, .int .i64 0, .string (s.extract 1 p)] 25) = w1 at hx hv hl hz ⊢
    obtain ⟨A, hA⟩ : ∃ A, w.heap.size = A := ⟨_, rfl⟩
    have HA := Lib.hid hA
    rw [hA] at hx hv hl hz ⊢
    obtain ⟨r0, r1, r2, _, _, _⟩ := hv
    have HX := Lib.hid hx
    have HLW := Lib.hid hl
    clear hA hx hl
    go_wp2_with fail
    refine (HR.out _).mono ?_
    rintro e w2 ⟨rfl, hg⟩
    have hb2 := hg.below
    obtain ⟨q0, q1, q2, f0, f1, f2⟩ := HX.out.below hb2 (by omega)
    have HLW2 := Lib.hid (HLW.out.trans (hb2.mono (by omega)))
    clear hg hb2 r0 r1 r2 hz
    go_wp2_with fail
    refine bodyPost_ret (v := .tuple #[.agg #[.int .i64 0, .int .i64 0, .string ⟨#[]⟩], .int .i64 7]) (by simp [results, Tryd.results20, go_sem, q0, q1, q2, f0, f1, f2]) rfl ⟨rfl, ?_⟩
    have hlow := HLW2.out
    rw [HA.out]
    go_grown
end Go.Proofs.YtadjgjbkjhallaaDoor
