/- Walk: a new bag. -/
import Derived.Test.YtfcdgfjpmcapkaaGreatBR
namespace Go.Proofs.YtfcdgfjpmcapkaaGreat
open Go.ChangeShapes Go.WideShapes Go.ChangeAt Go.RowKit Go.Maps
set_option linter.unusedVariables false

variable {w : World}

def NixR (w : World) (e : Ending) (w' : World) : Prop := ∃ mr mp, e = .returned (.agg #[.map (some mr), .map (some mp), .int .i64 0]) ∧ Mp w' mr 9 [] ∧ Mp w' mp 3 [] ∧ mr ≠ mp ∧ w.heap.size ≤ mr ∧ w.heap.size ≤ mp ∧ Below w.heap.size w w'

set_option maxRecDepth 100000 in
theorem newIndex_any (w : World) : Calls Tryz.prog 29 #[] w (NixR w) := by
  have hmm := @run_makeMap Tryz.prog
  go_enter Tryz.func29, Tryz.ntmps29
  go_wp2_with fail
  refine bodyPost_ret (v := .agg #[.map (some (w.heap.size + 1)), .map (some (w.heap.size + 1 + 1)), .int .i64 0]) (by simp [results, Tryz.results29, go_sem]) rfl ?_
  obtain ⟨o, ho⟩ : ∃ o, Obj.cells #[.map (some (w.heap.size + 1)), .map (some (w.heap.size + 1 + 1)), .int .i64 0] 61 = o := ⟨_, rfl⟩
  rw [ho]
  have h1 := Mp.made (w.alloc o) 9
  have h2 := Mp.made ((w.alloc o).alloc (.map #[] 0)) 3
  rw [World.size_alloc] at h1 h2
  rw [World.size_alloc] at h2
  exact ⟨_, _, rfl, h1.below ((Below.refl _ _).alloc (Nat.le_refl _) _), h2, by omega, by omega, by omega, (((Below.refl _ w).alloc (Nat.le_refl _) _).alloc (by simp) _).alloc (by simp; omega) _⟩

def MadR (w : World) (e : Ending) (w' : World) : Prop := ∃ b O, e = .returned (.pointer (some ⟨b, 0, none⟩)) ∧ Bag w' b O [] 0 ∧ (∀ k, O k → w.heap.size ≤ k) ∧ Below w.heap.size w w'

theorem new_end {w1 w2 w3 : World} {mr mp hb : Nat} {sv : Value} {H : List It} (h1 : Mp w1 mr 9 []) (h2 : Mp w1 mp 3 []) (hne : mr ≠ mp) (hl1 : w.heap.size ≤ mr) (hl2 : w.heap.size ≤ mp) (hb1 : Below w.heap.size w w1) (hh : Hb w2 hb sv H) (hp : H.Perm []) (hH : Heap H) (hl3 : w1.heap.size ≤ hb) (hl4 : ∀ g, sv.ownBlock = some g → w1.heap.size ≤ g) (hb2 : Below w1.heap.size w1 w2)
    (hb3 : Below w2.heap.size w2 w3) (hblk : w3.heap[w2.heap.size]? = some (.cells #[.pointer (some ⟨w2.heap.size, 0, none⟩), .map (some mr), .map (some mp), .int .i64 0, .pointer (some ⟨hb, 0, none⟩)] 66 (0, 0))) : MadR w (.returned (.pointer (some ⟨w2.heap.size, 0, none⟩))) w3 := by
  obtain rfl : H = [] := hp.eq_nil
  have hb13 : Below w1.heap.size w1 w3 := hb2.trans (hb3.mono hb2.size)
  have hI : Ix w3 w2.heap.size mr mp [] [] 0 hb := ⟨hblk, h1.below hb13, h2.below hb13, by simp, by simp, hne, by simp, by simp, by simp, List.Pairwise.nil, Nat.le_refl _⟩
  have hB : BgI w3 w2.heap.size mr mp hb sv [] [] 0 [] := ⟨hI, hh.below hb3, hH, by simp, by simp, by simp, Nat.le_refl _, Nat.le_refl _⟩
  have hz1 := hb1.size
  have hz2 := hb2.size
  refine ⟨w2.heap.size, BO w2.heap.size mr mp hb sv [], rfl, ⟨mr, mp, hb, sv, [], [], [], hB, fun h => absurd h (by simp), List.Perm.refl _, Sd.nil, fun k hk => hk, fun k hk => hB.lt hk⟩, fun k hk => ?_, hb1.trans (hb13.mono hz1)⟩
  rcases hk with (h | h | h | ⟨p, hp, _⟩) | h | h
  · omega
  · omega
  · omega
  · simp at hp
  · omega
  · have := hl4 k h; omega

set_option maxRecDepth 100000 in
theorem new_bag (w : World) : Calls Tryz.prog 9 #[] w (MadR w) := by
  have hpr : ∀ W : World, PR W (.slice none 0 0) [] := fun W => ⟨none, 0, rfl, fun h => absurd h (by simp)⟩
  go_enter Tryz.func9, Tryz.ntmps9
  go_wp2_with (first | (go_at_call 29; refine (newIndex_any _).mono ?_; rintro e w1 ⟨mr, mp, rfl, h1, h2, hne, hl1, hl2, hb1⟩; have H1 := Lib.hid h1; have H2 := Lib.hid h2; have HB1 := Lib.hid hb1; clear h1 h2 hb1) | (go_at_call 30; refine (new_any (hpr _) (by simp)).mono ?_; rintro e w2 ⟨hb, sv, H, rfl, hh, hp, hH, hl3, hl4, hb2⟩; have HH := Lib.hid hh; have HP := Lib.hid hp; have HHP := Lib.hid hH; have HL4 := Lib.hid hl4; have HB2 := Lib.hid hb2; clear hh hp hH hl4 hb2))
  go_ret
  exact new_end H1.out H2.out hne hl1 hl2 HB1.out HH.out HP.out HHP.out hl3 HL4.out HB2.out ((Below.refl _ _).alloc (Nat.le_refl _) _) (heap_alloc_new _ _)
end Go.Proofs.YtfcdgfjpmcapkaaGreat
