/- Walks of a book's small methods. -/
import Derived.Test.YtepelfigcoohiaaDoorA
import Derived.Deep.QuietTactic
import Derived.BigQuiet
import Derived.RegionTactic
import Derived.LoopTactic
import Derived.LaidEqlPtr
namespace Go.Proofs.YtepelfigcoohiaaDoor
open Go.ChangeShapes Go.WideShapes Go.ChangeAt Go.RowKit Go.Maps
set_option linter.unusedVariables false

/-- a new book -/
def NewBk (w : World) (e : Ending) (w' : World) : Prop := ∃ b m, e = .returned (.pointer (some ⟨b, 0, none⟩)) ∧ Bk w' b m (.slice none 0 0) [] ∧ w.heap.size ≤ b ∧ w.heap.size ≤ m ∧ Below w.heap.size w w'

theorem new_any (w : World) : Calls Tryd.prog 5 #[] w (NewBk w) := by
  have hmm := @run_makeMap Tryd.prog
  go_enter Tryd.func5, Tryd.ntmps5
  go_wp2
  go_ret
  refine ⟨w.heap.size + 1, w.heap.size, rfl, ⟨?_, ⟨.map [], ?_, num_nil⟩, World.ownsRow_nil _ _ _ _, List.nodup_nil⟩, by omega, Nat.le_refl _, ?_⟩
  · have := heap_alloc_new (w.alloc (Obj.map #[] 0)) (.cells #[.pointer (some ⟨w.heap.size + 1, 0, none⟩), .map (some w.heap.size), .slice none 0 0] 38)
    rw [World.size_alloc] at this
    exact this
  · exact (World.ownsMap_made w Tryd.prog 9 (plainElem Tryd.prog 3)).alloc _
  · exact ((Below.refl _ _).alloc (Nat.le_refl _) _).alloc (by simp) _

theorem info55 : ∃ j, Tryd.prog.info? 38 = some j := by
  have : (Tryd.prog.info? 38).isSome = true := by kernel_rfl
  exact Option.isSome_iff_exists.1 this

theorem same26 (w : World) (a : Addr) : (binOp .eql 23 (.pointer (some a)) (.pointer (some a))).run Tryd.prog w = .ok (.bool true) w := by
  obtain ⟨j, hj⟩ := info55
  exact run_eql_ptr_same w a Tryd.underlying23 hj

theorem made_yes {w : World} {b m : Nat} {sv : Value} {L : List ByteArray} (h : Bk w b m sv L) : Calls Tryd.prog 14 #[.pointer (some ⟨b, 0, none⟩)] w fun e w' => e = .returned (.bool true) ∧ w = w' := by
  obtain ⟨c0, c1, c2, f2⟩ := h.cells
  have H := Lib.hid h
  clear h
  have he := same26 w ⟨b, 0, none⟩
  go_enter Tryd.func14, Tryd.ntmps14
  go_wp2
  go_ret
  exact ⟨rfl, rfl⟩

theorem len_any {w : World} {b m : Nat} {sv : Value} {L : List ByteArray} (h : Bk w b m sv L) : Calls Tryd.prog 8 #[.pointer (some ⟨b, 0, none⟩)] w fun e w' => e = .returned (.int .i64 L.length) ∧ w = w' := by
  obtain ⟨c0, c1, c2, f2⟩ := h.cells
  obtain ⟨A, c, rfl, hs⟩ := h.sr
  have H := Lib.hid h
  clear h hs
  go_enter Tryd.func8, Tryd.ntmps8
  go_wp2_with (go_at_call 14; refine (made_yes H.out).mono ?_; rintro e w' ⟨rfl, rfl⟩)
  go_ret
  exact ⟨rfl, rfl⟩

theorem ret_ib {a b : Int} {x y : Bool} (h : a = b) (h2 : x = y) : Ending.returned (.tuple #[.int .i64 a, .bool x]) = .returned (.tuple #[.int .i64 b, .bool y]) := by rw [h, h2]

/-- a number's text -/
def textOf (L : List ByteArray) (n : Int) : ByteArray × Bool := if h : 0 ≤ n ∧ n.toNat < L.length then (L[n.toNat]'h.2, true) else (⟨#[]⟩, false)
def TextR (p : ByteArray × Bool) (w : World) (e : Ending) (w' : World) : Prop := e = .returned (.tuple #[.string p.1, .bool p.2]) ∧ w = w'
theorem textR_of {p : ByteArray × Bool} {s : ByteArray} {x : Bool} {w : World} (h : p = (s, x)) : TextR p w (.returned (.tuple #[.string s, .bool x])) w := by subst h; exact ⟨rfl, rfl⟩

theorem text_any {w : World} {b m : Nat} {sv : Value} {L : List ByteArray} (h : Bk w b m sv L) (n : Int) : Calls Tryd.prog 10 #[.pointer (some ⟨b, 0, none⟩), .int .i64 n] w (TextR (textOf L n) w) := by
  obtain ⟨c0, c1, c2, f2⟩ := h.cells
  obtain ⟨A, c, rfl, hsr⟩ := h.sr
  by_cases h1 : n < 0
  · have e : textOf L n = (⟨#[]⟩, false) := dif_neg (by omega)
    have HE := Lib.hid e
    have H := Lib.hid h
    clear h e hsr
    go_enter Tryd.func10, Tryd.ntmps10
    go_wp2
    go_ret2
    exact textR_of HE.out
  · by_cases h2 : n.toNat < L.length
    · obtain ⟨k, rfl⟩ : ∃ k : Nat, n = k := ⟨n.toNat, by omega⟩
      obtain ⟨ad, rfl, hg, hc⟩ := hsr (by omega)
      have h3 : k < L.length := by simpa using h2
      have hck := hc k h3
      obtain ⟨x, hx⟩ : ∃ x, L[k] = x := ⟨_, rfl⟩
      rw [hx] at hck
      have e : textOf L k = (x, true) := by rw [← hx]; exact dif_pos (show 0 ≤ (k : Int) ∧ _ from ⟨by omega, h2⟩)
      have HE := Lib.hid e
      have HX := Lib.hid hx
      have H := Lib.hid h
      have hd : decide (L.length ≤ k) = false := by simpa using h3
      clear h e hx h1 h2 hc
      go_enter Tryd.func10, Tryd.ntmps10
      go_wp2_with (go_at_call 8; refine (len_any H.out).mono ?_; rintro e w' ⟨rfl, rfl⟩)
      go_ret2
      exact textR_of HE.out
    · have e : textOf L n = (⟨#[]⟩, false) := dif_neg (by omega)
      have h4 : (L.length : Int) ≤ n := by omega
      have h5 : 0 ≤ n := by omega
      have HE := Lib.hid e
      have H := Lib.hid h
      clear h e hsr h1 h2
      go_enter Tryd.func10, Tryd.ntmps10
      go_wp2_with (go_at_call 8; refine (len_any H.out).mono ?_; rintro e w' ⟨rfl, rfl⟩)
      go_ret2
      exact textR_of HE.out
end Go.Proofs.YtepelfigcoohiaaDoor
