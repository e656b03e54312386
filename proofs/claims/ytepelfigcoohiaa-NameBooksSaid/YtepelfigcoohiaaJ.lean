/- Walk of the chapter's example. -/
import Derived.Test.YtepelfigcoohiaaF
import Derived.Test.YtepelfigcoohiaaH
import Derived.Test.YtepelfigcoohiaaI
namespace Go.Proofs.Ytepelfigcoohiaa
open Go.ChangeShapes Go.WideShapes Go.ChangeAt Go.RowKit Go.Maps Go.Shelf
set_option linter.unusedVariables false

/-- a book of the call's own: all that is its lies from n0 on -/
structure Own (n0 : Nat) (w : World) (b m : Nat) (sv : Value) (L : List ByteArray) : Prop where
  bk : Bk w b m sv L
  hb : n0 ≤ b
  hm : n0 ≤ m
  hs : ∀ g, sv.ownBlock = some g → n0 ≤ g

theorem Own.off {n0 : Nat} {w : World} {b m : Nat} {sv : Value} {L : List ByteArray} (h : Own n0 w b m sv L) {k : Nat} (hk : k < n0) : Off b m sv k :=
  ⟨by have := h.hb; omega, by have := h.hm; omega, fun e => by have := h.hs k e; omega⟩
theorem Own.below {n0 : Nat} {w w' : World} {b m : Nat} {sv : Value} {L : List ByteArray} (h : Own n0 w b m sv L) (hb : Below w.heap.size w w') : Own n0 w' b m sv L := ⟨h.bk.below hb, h.hb, h.hm, h.hs⟩
theorem Own.turn {n0 : Nat} {w w' : World} {b m : Nat} {sv : Value} {L L2 : List ByteArray} (h : Own n0 w b m sv L) (hn : n0 ≤ w.heap.size) (ht : Turn w b m sv L2 w') :
    ∃ sv', Own n0 w' b m sv' L2 ∧ Below n0 w w' ∧ Loc w.heap.size sv sv' ∧ Keep (Off b m sv) w w' := by
  obtain ⟨sv', k1, k2, k3⟩ := ht
  refine ⟨sv', ⟨k1, h.hb, h.hm, fun g e => ?_⟩, k3.below hn fun k hk => h.off hk, k2, k3⟩
  rcases k2 with e2 | ⟨g2, e2, hg⟩
  · exact h.hs g (e2.symm.trans e)
  · rw [e] at e2; injection e2 with e2; omega

theorem SR.lit (w : World) (l : List ByteArray) (cs : Array Value) (hcs : cs.toList = l.map Value.string) (t : TypeId) : SR (w.alloc (.cells cs t)) (.slice (some ⟨w.heap.size, 0, none⟩) l.length l.length) l := by
  refine ⟨_, _, rfl, fun _ => ⟨_, rfl, by simp, fun k hk => ?_⟩⟩
  have e : (⟨w.heap.size, 0, none⟩ : Addr).add k = ⟨w.heap.size, k, none⟩ := by unfold Addr.add; split <;> simp_all
  rw [e, cell_of_row _ _ k cs t (0, 0) (heap_alloc_new w _), ← Array.getElem?_toList, hcs]
  simp [hk]
theorem IR.lit (w : World) (l : List Int) (cs : Array Value) (hcs : cs.toList = l.map (Value.int .i64)) (t : TypeId) : IR (w.alloc (.cells cs t)) (.slice (some ⟨w.heap.size, 0, none⟩) l.length l.length) l := by
  refine ⟨_, _, rfl, fun _ => ⟨_, rfl, by simp, fun k hk => ?_⟩⟩
  have e : (⟨w.heap.size, 0, none⟩ : Addr).add k = ⟨w.heap.size, k, none⟩ := by unfold Addr.add; split <;> simp_all
  rw [e, cell_of_row _ _ k cs t (0, 0) (heap_alloc_new w _), ← Array.getElem?_toList, hcs]
  simp [hk]

/-- what is told of texts for which there is room -/
def OfY (n0 b m : Nat) (sv : Value) (L l : List ByteArray) (w : World) (e : Ending) (w' : World) : Prop :=
  ∃ v sv', e = .returned (.tuple #[v, .int .i64 0]) ∧ w'.ownsRow w.heap.size 3 1 v l.length ((numsL L l).map (Value.int .i64)) ∧ Own n0 w' b m sv' (bookL L l) ∧ Below n0 w w' ∧ Loc w.heap.size sv sv' ∧ Keep (Off b m sv) w w'

theorem of_yes {n0 : Nat} {w : World} {b m : Nat} {sv : Value} {L : List ByteArray} (h : Own n0 w b m sv L) (hn : n0 ≤ w.heap.size) (v : Value) (l : List ByteArray) (hv : SR w v l) (hoff : 0 < l.length → ∀ g, v.ownBlock = some g → Off b m sv g)
    (hl : ∀ s ∈ l, s.size ≤ 140737488355328) (hll : l.length ≤ 1000000) (hfit : L.length + (fr L l).length ≤ 65536) : Calls Try.prog 15 #[.pointer (some ⟨b, 0, none⟩), v] w (OfY n0 b m sv L l w) := by
  refine (of_any h.bk v l hv hoff hl (by omega) hll).mono ?_
  rintro e w' (⟨_, v, rfl, hr, ht⟩ | ⟨hc, _⟩)
  · obtain ⟨sv', k1, k2, k3, k4⟩ := h.turn hn ht
    exact ⟨v, sv', rfl, hr, k1, k2, k3, k4⟩
  · omega

theorem Bk.off_row {w : World} {b m base n : Nat} {sv v : Value} {L : List ByteArray} {xs : List Value} (h : Bk w b m sv L) (hr : w.ownsRow base 3 1 v n xs) (g : Nat) (hg : v.ownBlock = some g) : Off b m sv g := by
  rcases hr.2 with ⟨rfl, _⟩ | ⟨g', cap, cur, rfl, _, hh, _⟩
  · simp [Value.ownBlock] at hg
  · obtain rfl : g' = g := by simpa [Value.ownBlock] using hg
    refine ⟨?_, ?_, fun e => ?_⟩
    · rintro rfl
      have := h.blk
      rw [hh] at this
      simp at this
    · rintro rfl
      obtain ⟨D, ⟨es, cl, hm, _⟩, _⟩ := h.map
      rw [hm] at hh
      cases hh
    · rcases h.row.2 with ⟨rfl, _⟩ | ⟨g2, cap2, cur2, rfl, _, hh2, _⟩
      · simp [Value.ownBlock] at e
      · obtain rfl : g2 = g' := by simpa [Value.ownBlock] using e
        rw [hh] at hh2
        simp at hh2

def tA : ByteArray := ⟨#[97]⟩
def tB : ByteArray := ⟨#[98]⟩
def tC : ByteArray := ⟨#[99]⟩
theorem fr1 : fr [] [tB, tA, tB] = [tB, tA] := by decide
theorem fr2 : fr [tB, tA] [tA, tC] = [tC] := by decide
theorem bk1 : bookL [] [tB, tA, tB] = [tB, tA] := by decide
theorem bk2 : bookL [tB, tA] [tA, tC] = [tB, tA, tC] := by decide
theorem nums1 : numsL [] [tB, tA, tB] = [0, 1, 0] := by decide
theorem nums2 : numsL [tB, tA] [tA, tC] = [1, 2] := by decide
theorem text1 : textOf [tB, tA, tC] 1 = (tA, true) := by decide
theorem ver1 : verB ⟨#[49, 97]⟩ = true := by decide
theorem fre1 : freB ⟨#[97, 115, 49]⟩ = true := by decide +kernel
theorem fre2 : freB ⟨#[97, 115]⟩ = false := by decide +kernel

set_option maxHeartbeats 2000000 in
theorem awake_any (w : World) : Calls Try.prog 10 #[] w fun e w' => e = .returned (.bool true) ∧ Below w.heap.size w w' := by
  have htA : (tA.toList == [97]) = true := by rw [ByteArray.toList_eq]; rfl
  go_enter Try.func10, Try.ntmps10
  go_wp2_with (go_at_call 12; refine (new_any _).mono ?_; rintro e w1 ⟨b, m, rfl, hbk, h1, h2, hb1⟩)
  have HB1 := Lib.hid hb1
  have HO1 := Lib.hid (⟨hbk, h1, h2, fun g e => by simp [Value.ownBlock] at e⟩ : Own w.heap.size w1 b m _ [])
  have hz1 : w.heap.size ≤ w1.heap.size := hb1.size
  clear hb1 hbk h1 h2
  go_wp2_with fail
  refine (of_yes (HO1.out.below ((Below.refl _ _).alloc (Nat.le_refl _) _)) (by simp; omega) _ [tB, tA, tB] (SR.lit w1 [tB, tA, tB] _ rfl 9) (fun _ g hg => by simp [Value.ownBlock] at hg; subst hg; exact HO1.out.bk.off (Nat.le_refl _)) (by decide) (by decide) (by decide)).mono ?_
  rintro e w2 ⟨v1, sv2, rfl, hr1, ho2, hb2, hl2, hk2⟩
  rw [bk1] at ho2
  rw [nums1] at hr1
  have HI1 := Lib.hid (IR.of_own hr1)
  have HF1 := Lib.hid (ho2.bk.off_row hr1)
  have HO2 := Lib.hid ho2
  have HB2 := Lib.hid ((HB1.out.alloc hz1 _).trans hb2)
  have hz2 : w1.heap.size < w2.heap.size := by have := hk2.size; simp at this; omega
  clear hr1 ho2 hb2 hl2 hk2
  go_wp2_with fail
  refine (of_yes (HO2.out.below ((Below.refl _ _).alloc (Nat.le_refl _) _)) (by simp; omega) _ [tA, tC] (SR.lit w2 [tA, tC] _ rfl 9) (fun _ g hg => by simp [Value.ownBlock] at hg; subst hg; exact HO2.out.bk.off (Nat.le_refl _)) (by decide) (by decide) (by decide)).mono ?_
  rintro e w3 ⟨v2, sv3, rfl, hr2, ho3, hb3, hl3, hk3⟩
  rw [bk2] at ho3
  rw [nums2] at hr2
  have HI2 := Lib.hid (IR.of_own hr2)
  have HI1' := Lib.hid ((HI1.out.below ((Below.refl _ _).alloc (Nat.le_refl _) _)).keep hk3 (fun g hg _ => HF1.out g hg))
  have HO3 := Lib.hid ho3
  have HB3 := Lib.hid ((HB2.out.alloc (by omega) _).trans hb3)
  have hz3 : w2.heap.size < w3.heap.size := by have := hk3.size; simp at this; omega
  clear hr2 ho3 hb3 hl3 hk3
  go_wp2_with fail
  refine (text_any HO3.out.bk 1).mono ?_
  rintro e w' ht
  rw [text1] at ht
  obtain ⟨rfl, rfl⟩ := ht
  go_wp2_with fail
  refine (sameI_any _ _ [0, 1, 0] [0, 1, 0] _ (HI1'.out.below ((Below.refl _ _).alloc (Nat.le_refl _) _)) (IR.lit w3 [0, 1, 0] _ rfl 3) (by decide)).mono ?_
  rintro e w4 ⟨rfl, hb4⟩
  rw [decide_eq_true rfl]
  have HB4 := Lib.hid hb4
  have hz4 : w3.heap.size < w4.heap.size := by have := hb4.size; simp at this; omega
  clear hb4
  go_wp2_with fail
  refine (sameI_any _ _ [1, 2] [1, 2] _ (((HI2.out.below ((Below.refl _ _).alloc (Nat.le_refl _) _)).below HB4.out).below ((Below.refl _ _).alloc (Nat.le_refl _) _)) (IR.lit w4 [1, 2] _ rfl 3) (by decide)).mono ?_
  rintro e w5 ⟨rfl, hb5⟩
  rw [decide_eq_true rfl]
  have HB5 := Lib.hid hb5
  have hz5 : w4.heap.size < w5.heap.size := by have := hb5.size; simp at this; omega
  clear hb5
  go_wp2_with fail
  refine (free_any _ _ (by decide)).mono ?_
  rintro e w6 ⟨rfl, hb6⟩
  rw [fre1]
  have HB6 := Lib.hid hb6
  have hz6 := hb6.size
  clear hb6
  go_wp2_with fail
  refine (free_any _ _ (by decide)).mono ?_
  rintro e w7 ⟨rfl, hb7⟩
  rw [fre2]
  have HB7 := Lib.hid hb7
  have hz7 := hb7.size
  clear hb7
  go_wp2_with fail
  refine (vertex_any _ _ (by decide)).mono ?_
  rintro e w8 ⟨rfl, hb8⟩
  rw [ver1]
  have HB8 := Lib.hid hb8
  clear hb8
  go_wp2_with fail
  go_ret
  refine ⟨rfl, ?_⟩
  have k1 := (((HB3.out.alloc (by omega) _).trans (HB4.out.mono (by simp; omega))).alloc (by omega) _).trans (HB5.out.mono (by simp; omega))
  exact ((k1.trans (HB6.out.mono (by omega))).trans (HB7.out.mono (by omega))).trans (HB8.out.mono (by omega))
end Go.Proofs.Ytepelfigcoohiaa
