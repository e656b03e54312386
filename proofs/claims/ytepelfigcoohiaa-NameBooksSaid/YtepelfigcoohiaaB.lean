/- Walks of a book's small methods. -/
import Derived.Test.YtepelfigcoohiaaA
import Derived.Deep.QuietTactic
import Derived.BigQuiet
import Derived.RegionTactic
import Derived.LoopTactic
import Derived.LaidEqlPtr
namespace Go.Proofs.Ytepelfigcoohiaa
open Go.ChangeShapes Go.WideShapes Go.ChangeAt Go.RowKit Go.Maps
set_option linter.unusedVariables false

/-- a new book -/
def NewBk (w : World) (e : Ending) (w' : World) : Prop := ∃ b m, e = .returned (.pointer (some ⟨b, 0, none⟩)) ∧ Bk w' b m (.slice none 0 0) [] ∧ w.heap.size ≤ b ∧ w.heap.size ≤ m ∧ Below w.heap.size w w'

theorem new_any (w : World) : Calls Try.prog 12 #[] w (NewBk w) := by
  have hmm := @run_makeMap Try.prog
  go_enter Try.func12, Try.ntmps12
  go_wp2
  go_ret
  refine ⟨w.heap.size + 1, w.heap.size, rfl, ⟨?_, ⟨.map [], ?_, num_nil⟩, World.ownsRow_nil _ _ _ _, List.nodup_nil⟩, by omega, Nat.le_refl _, ?_⟩
  · have := heap_alloc_new (w.alloc (Obj.map #[] 0)) (.cells #[.pointer (some ⟨w.heap.size + 1, 0, none⟩), .map (some w.heap.size), .slice none 0 0] 55)
    rw [World.size_alloc] at this
    exact this
  · exact (World.ownsMap_made w Try.prog 9 (plainElem Try.prog 3)).alloc _
  · exact ((Below.refl _ _).alloc (Nat.le_refl _) _).alloc (by simp) _

theorem info55 : ∃ j, Try.prog.info? 55 = some j := by
  have : (Try.prog.info? 55).isSome = true := by kernel_rfl
  exact Option.isSome_iff_exists.1 this

theorem same26 (w : World) (a : Addr) : (binOp .eql 26 (.pointer (some a)) (.pointer (some a))).run Try.prog w = .ok (.bool true) w := by
  obtain ⟨j, hj⟩ := info55
  exact run_eql_ptr_same w a Try.underlying26 hj

theorem made_yes {w : World} {b m : Nat} {sv : Value} {L : List ByteArray} (h : Bk w b m sv L) : Calls Try.prog 34 #[.pointer (some ⟨b, 0, none⟩)] w fun e w' => e = .returned (.bool true) ∧ w = w' := by
  obtain ⟨c0, c1, c2, f2⟩ := h.cells
  have H := Lib.hid h
  clear h
  have he := same26 w ⟨b, 0, none⟩
  go_enter Try.func34, Try.ntmps34
  go_wp2
  go_ret
  exact ⟨rfl, rfl⟩

theorem len_any {w : World} {b m : Nat} {sv : Value} {L : List ByteArray} (h : Bk w b m sv L) : Calls Try.prog 22 #[.pointer (some ⟨b, 0, none⟩)] w fun e w' => e = .returned (.int .i64 L.length) ∧ w = w' := by
  obtain ⟨c0, c1, c2, f2⟩ := h.cells
  obtain ⟨A, c, rfl, hs⟩ := h.sr
  have H := Lib.hid h
  clear h hs
  go_enter Try.func22, Try.ntmps22
  go_wp2_with (go_at_call 34; refine (made_yes H.out).mono ?_; rintro e w' ⟨rfl, rfl⟩)
  go_ret
  exact ⟨rfl, rfl⟩

theorem ret_ib {a b : Int} {x y : Bool} (h : a = b) (h2 : x = y) : Ending.returned (.tuple #[.int .i64 a, .bool x]) = .returned (.tuple #[.int .i64 b, .bool y]) := by rw [h, h2]

theorem find_any {w : World} {b m : Nat} {sv : Value} {L : List ByteArray} (h : Bk w b m sv L) (s : ByteArray) (hs : s.size ≤ maxLen) :
    Calls Try.prog 17 #[.pointer (some ⟨b, 0, none⟩), .string s] w fun e w' => e = .returned (.tuple #[.int .i64 (numOf L s), .bool (decide (s ∈ L))]) ∧ w = w' := by
  obtain ⟨c0, c1, c2, f2⟩ := h.cells
  obtain ⟨D, hown, hnum⟩ := h.map
  have hk := hkey s hs
  have H := Lib.hid h
  have HN := Lib.hid (hnum.2 s)
  clear h hnum
  go_enter Try.func17, Try.ntmps17
  go_wp2_with (first | (go_at_call 34; refine (made_yes H.out).mono ?_; rintro e w' ⟨rfl, rfl⟩) | (at_lookup; refine wpList_lookup_own_ok_int _ rfl _ _ 53 rfl 9 3 .i64 law9 Try.underlying53 Try.underlying3 (zero3 _) m L.length D rfl hown _ _ rfl hk ?_; intro c hat hwc; have HA := Lib.hid hat; clear hat))
  go_ret2
  refine ⟨ret_ib ?_ HN.out.1, rfl⟩
  have := HA.out.symm.trans HN.out.2
  simpa using this

/-- a number's text -/
def textOf (L : List ByteArray) (n : Int) : ByteArray × Bool := if h : 0 ≤ n ∧ n.toNat < L.length then (L[n.toNat]'h.2, true) else (⟨#[]⟩, false)
def TextR (p : ByteArray × Bool) (w : World) (e : Ending) (w' : World) : Prop := e = .returned (.tuple #[.string p.1, .bool p.2]) ∧ w = w'
theorem textR_of {p : ByteArray × Bool} {s : ByteArray} {x : Bool} {w : World} (h : p = (s, x)) : TextR p w (.returned (.tuple #[.string s, .bool x])) w := by subst h; exact ⟨rfl, rfl⟩

theorem text_any {w : World} {b m : Nat} {sv : Value} {L : List ByteArray} (h : Bk w b m sv L) (n : Int) : Calls Try.prog 19 #[.pointer (some ⟨b, 0, none⟩), .int .i64 n] w (TextR (textOf L n) w) := by
  obtain ⟨c0, c1, c2, f2⟩ := h.cells
  obtain ⟨A, c, rfl, hsr⟩ := h.sr
  by_cases h1 : n < 0
  · have e : textOf L n = (⟨#[]⟩, false) := dif_neg (by omega)
    have HE := Lib.hid e
    have H := Lib.hid h
    clear h e hsr
    go_enter Try.func19, Try.ntmps19
    go_wp2
    go_ret2
    exact textR_of HE.out
  · by_cases h2 : n.toNat < L.length
    · obtain ⟨k, rfl⟩ : ∃ k : Nat, n = k := ⟨n.toNat, by omega⟩
      obtain ⟨ad, rfl, hg, hc⟩ := hsr (by omega)
      have h3 : k < L.length := by simpa using h2
      have hck := hc k h3
      obtain ⟨x, hx⟩ : ∃ x, L[k] = x := ⟨_, rfl⟩
      rw [hx] at hck
      have e : textOf L k = (x, true) := by rw [← hx]; exact dif_pos (show 0 ≤ (k : Int) ∧ _ from ⟨by omega, h2⟩)
      have HE := Lib.hid e
      have HX := Lib.hid hx
      have H := Lib.hid h
      have hd : decide (L.length ≤ k) = false := by simpa using h3
      clear h e hx h1 h2 hc
      go_enter Try.func19, Try.ntmps19
      go_wp2_with (go_at_call 22; refine (len_any H.out).mono ?_; rintro e w' ⟨rfl, rfl⟩)
      go_ret2
      exact textR_of HE.out
    · have e : textOf L n = (⟨#[]⟩, false) := dif_neg (by omega)
      have h4 : (L.length : Int) ≤ n := by omega
      have h5 : 0 ≤ n := by omega
      have HE := Lib.hid e
      have H := Lib.hid h
      clear h e hsr h1 h2
      go_enter Try.func19, Try.ntmps19
      go_wp2_with (go_at_call 22; refine (len_any H.out).mono ?_; rintro e w' ⟨rfl, rfl⟩)
      go_ret2
      exact textR_of HE.out
end Go.Proofs.Ytepelfigcoohiaa
