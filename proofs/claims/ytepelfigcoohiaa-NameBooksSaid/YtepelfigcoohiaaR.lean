/- The reference's book: what it finds. -/
import Derived.Test.YtepelfigcoohiaaI
import Derived.Test.YtepelfigcoohiaaJ
import Derived.LoopTactic
namespace Go.Proofs.Ytepelfigcoohiaa
open Go.ChangeShapes Go.WideShapes Go.ChangeAt Go.RowKit Go.Maps Go.Shelf
set_option linter.unusedVariables false

/-- the reference's book: one block with one row of texts -/
structure RB (n0 : Nat) (w : World) (r : Nat) (sv : Value) (L : List ByteArray) : Prop where
  blk : w.heap[r]? = some (.cells #[sv] 44 (0, 0))
  row : w.ownsRow n0 9 1 sv L.length (L.map Value.string)

theorem RB.lt {n0 : Nat} {w : World} {r : Nat} {sv : Value} {L : List ByteArray} (h : RB n0 w r sv L) : r < w.heap.size := (Array.getElem?_eq_some_iff.1 h.blk).1
theorem RB.cells {n0 : Nat} {w : World} {r : Nat} {sv : Value} {L : List ByteArray} (h : RB n0 w r sv L) : w.cell? ⟨r, 0, none⟩ = some sv ∧ w.frozen? ⟨r, 0, none⟩ = false := by
  refine ⟨?_, ?_⟩
  · rw [cell_of_row w r 0 _ 44 (0, 0) h.blk]; rfl
  · have := h.blk; simp [World.frozen?, this]
theorem RB.sr {n0 : Nat} {w : World} {r : Nat} {sv : Value} {L : List ByteArray} (h : RB n0 w r sv L) : SR w sv L := SR.of_own h.row
theorem RB.keep {n0 : Nat} {w w' : World} {r : Nat} {sv : Value} {L : List ByteArray} (h : RB n0 w r sv L) {p : Nat → Prop} (hk : Keep p w w') (hr : p r) (hs : ∀ g, sv.ownBlock = some g → p g) : RB n0 w' r sv L := by
  refine ⟨(hk.block r h.lt hr).trans h.blk, h.row.1, ?_⟩
  rcases h.row.2 with hn | ⟨g, cap, cur, e, hbg, hg, rest⟩
  · exact .inl hn
  · have hlt := (Array.getElem?_eq_some_iff.1 hg).1
    exact .inr ⟨g, cap, cur, e, hbg, (hk.block g hlt (hs g (by rw [e]; rfl))).trans hg, rest⟩
theorem RB.below {n0 : Nat} {w w' : World} {r : Nat} {sv : Value} {L : List ByteArray} (h : RB n0 w r sv L) (hb : Below w.heap.size w w') : RB n0 w' r sv L := h.keep (p := fun _ => True) (Keep.of_below hb) trivial fun _ _ => trivial

/-- a new one -/
def NewRB (w : World) (e : Ending) (w' : World) : Prop := ∃ r, e = .returned (.pointer (some ⟨r, 0, none⟩)) ∧ w.heap.size ≤ r ∧ RB w.heap.size w' r (.slice none 0 0) [] ∧ Below w.heap.size w w'

theorem rNew_any (w : World) : Calls Try.prog 13 #[] w (NewRB w) := by
  go_enter Try.func13, Try.ntmps13
  go_wp2
  go_ret
  exact ⟨w.heap.size, rfl, Nat.le_refl _, ⟨heap_alloc_new w _, World.ownsRow_nil _ _ _ _⟩, (Below.refl _ _).alloc (Nat.le_refl _) _⟩

theorem rText_any {n0 : Nat} {w : World} {r : Nat} {sv : Value} {L : List ByteArray} (h : RB n0 w r sv L) (n : Int) : Calls Try.prog 20 #[.pointer (some ⟨r, 0, none⟩), .int .i64 n] w (TextR (textOf L n) w) := by
  obtain ⟨c0, f0⟩ := h.cells
  obtain ⟨A, c, rfl, hsr⟩ := h.sr
  by_cases h1 : n < 0
  · have e : textOf L n = (⟨#[]⟩, false) := dif_neg (by omega)
    have HE := Lib.hid e
    clear h e hsr
    go_enter Try.func20, Try.ntmps20
    go_wp2
    go_ret2
    exact textR_of HE.out
  · by_cases h2 : n.toNat < L.length
    · obtain ⟨k, rfl⟩ : ∃ k : Nat, n = k := ⟨n.toNat, by omega⟩
      obtain ⟨ad, rfl, hg, hc⟩ := hsr (by omega)
      have h3 : k < L.length := by simpa using h2
      have hck := hc k h3
      obtain ⟨x, hx⟩ : ∃ x, L[k] = x := ⟨_, rfl⟩
      rw [hx] at hck
      have e : textOf L k = (x, true) := by rw [← hx]; exact dif_pos (show 0 ≤ (k : Int) ∧ _ from ⟨by omega, h2⟩)
      have HE := Lib.hid e
      have hd : decide (L.length ≤ k) = false := by simpa using h3
      clear h e hx h1 h2 hc
      go_enter Try.func20, Try.ntmps20
      go_wp2
      go_ret2
      exact textR_of HE.out
    · have e : textOf L n = (⟨#[]⟩, false) := dif_neg (by omega)
      have h4 : (L.length : Int) ≤ n := by omega
      have h5 : 0 ≤ n := by omega
      have HE := Lib.hid e
      clear h e hsr h1 h2
      go_enter Try.func20, Try.ntmps20
      go_wp2
      go_ret2
      exact textR_of HE.out

theorem numOf_first {L : List ByteArray} {s : ByteArray} {k : Nat} (h : k < L.length) (hs : L[k] = s) (hn : ¬ s ∈ L.take k) : numOf L s = k ∧ s ∈ L := by
  have hm : s ∈ L := by rw [← hs]; exact List.getElem_mem h
  have e : L = L.take k ++ (L.drop k) := (List.take_append_drop k L).symm
  have h1 : numOf (L.take (k + 1)) s = k := by
    rw [List.take_succ_eq_append_getElem h, hs, numOf_new hn, List.length_take, Nat.min_eq_left (by omega)]
  refine ⟨?_, hm⟩
  have h2 : s ∈ L.take (k + 1) := by rw [List.take_succ_eq_append_getElem h, hs]; simp
  have h3 := numOf_app h2 (L.drop (k + 1))
  rw [List.take_append_drop] at h3
  rw [h3, h1]

theorem rFind_any {n0 : Nat} {w : World} {r : Nat} {sv : Value} {L : List ByteArray} (h : RB n0 w r sv L) (s : ByteArray) (hl : L.length ≤ 100000000) :
    Calls Try.prog 18 #[.pointer (some ⟨r, 0, none⟩), .string s] w fun e w' => e = .returned (.tuple #[.int .i64 (numOf L s), .bool (decide (s ∈ L))]) ∧ w = w' := by
  obtain ⟨c0, f0⟩ := h.cells
  obtain ⟨A, c, rfl, hsr⟩ := h.sr
  have HSR := Lib.hid hsr
  clear h hsr
  go_enter Try.func18, Try.ntmps18
  go_wp2
  go_loop [6] (fun i => ∃ k : Nat, k ≤ L.length ∧ i = .int .i64 k ∧ ¬ s ∈ L.take k) (fun i => L.length - (intOf i).toNat)
  case atStart => exact ⟨0, Nat.zero_le _, rfl, by simp⟩
  case round =>
    obtain ⟨k, hk, rfl, hn⟩ := hrel
    have HN := Lib.hid hn
    clear hn
    by_cases hlt : k < L.length
    · obtain ⟨ad, rfl, hg, hc⟩ := HSR.out (by omega)
      have hck := hc k hlt
      obtain ⟨x, hx⟩ : ∃ x, L[k] = x := ⟨_, rfl⟩
      rw [hx] at hck
      have HX := Lib.hid hx
      clear hc hx
      by_cases hxs : x = s
      · have hb : (x.toList == s.toList) = true := by rw [hxs]; simp
        have HF := Lib.hid (numOf_first hlt (HX.out.trans hxs) HN.out)
        clear hxs
        go_wp2
        go_ret2
        exact ⟨ret_ib (by rw [HF.out.1]) (by simpa using HF.out.2), rfl⟩
      · have hb : (x.toList == s.toList) = false := by rw [beq_eq_false_iff_ne]; exact fun e => hxs (toList_inj e)
        have HXS := Lib.hid hxs
        clear hxs
        go_wp2
        go_round
        case rel => exact ⟨k + 1, by omega, by go_num, by rw [List.take_succ_eq_append_getElem hlt, HX.out, List.mem_append]; rintro (h1 | h1); exact HN.out h1; simp at h1; exact HXS.out h1.symm⟩
        case measure => simp [intOf]; omega
    · obtain rfl : k = L.length := by omega
      go_wp2
      go_ret2
      have hno := HN.out
      rw [List.take_of_length_le (Nat.le_refl _)] at hno
      exact ⟨ret_ib (by simp [numOf, hno]) (by simpa using hno), rfl⟩
end Go.Proofs.Ytepelfigcoohiaa
