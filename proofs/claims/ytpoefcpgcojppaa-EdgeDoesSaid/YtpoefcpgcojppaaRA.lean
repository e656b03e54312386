/- Walks of the document's reader. -/
import Derived.Test.YtpoefcpgcojppaaPK
import Derived.Laws.MakeOwn
import Derived.Lib.SmallJoins
namespace Go.Proofs.Ytpoefcpgcojppaa
open Go.ChangeShapes Go.WideShapes Go.ChangeAt Go.RowKit
set_option linter.unusedVariables false

/-- block B is a reader's: what is still to be read, whether it was bad -/
structure RdQ (w : World) (B : Nat) (s : Rs) : Prop where
  ex : ∃ v, w.heap[B]? = some (.cells #[v, .bool s.2] 76 (0, 0)) ∧ SB w B v s.1
theorem RdQ.lt {w : World} {B : Nat} {s : Rs} (h : RdQ w B s) : B < w.heap.size := by
  obtain ⟨v, h1, _⟩ := h.ex
  exact (Array.getElem?_eq_some_iff.1 h1).1
theorem RdQ.keep {w w' : World} {B : Nat} {s : Rs} (h : RdQ w B s) {p : Nat → Prop} (hk : Keep p w w') (hp : ∀ k, k ≤ B → p k) : RdQ w' B s := by
  obtain ⟨v, h1, h2⟩ := h.ex
  have hb := hk.block B h.lt (hp B (Nat.le_refl _))
  exact ⟨v, hb.trans h1, h2.keep ⟨hk.os, hk.tape, hk.output, hk.size, fun k hlt hb => hk.block k hlt (hp k (Nat.le_of_lt hb))⟩⟩
theorem RdQ.below {w w' : World} {B : Nat} {s : Rs} (h : RdQ w B s) (hb : Below w.heap.size w w') : RdQ w' B s := h.keep (p := fun _ => True) (Keep.of_below hb) fun _ _ => trivial
theorem keep_set2 (w : World) (B i : Nat) (v : Value) : Keep (fun k => k ≠ B) w (w.setCell ⟨B, i, none⟩ v) :=
  ⟨rfl, rfl, rfl, by simp, fun k hk hne => by rw [Below.heap_setCell _ _ _ _ hne]⟩

def TakeR (B n : Nat) (s : Rs) (w : World) (e : Ending) (w' : World) : Prop := ∃ A c, e = .returned (.slice A n c) ∧ BR w' (.slice A n c) (tk n s).1 ∧ RdQ w' B (tk n s).2 ∧ Keep (fun k => k ≠ B) w w' ∧ (0 < n → ∀ ad, A = some ad → ad.block < B ∨ w.heap.size ≤ ad.block)

theorem made_list (z : Value) (n : Nat) : (madeCells #[z] n).toList = List.replicate n z := by
  apply List.ext_getElem
  · simp [madeCells]
  · intro i h1 h2
    simp [madeCells, Nat.mod_one]
theorem run_fill (n : Nat) (hn : n ≤ 1000) : ∃ M : Array Value, M.toList = byC (List.replicate n 0) ∧ ∀ W : World, (Instr.makeSlice 34 (.int .i64 (n : Int)) (.int .i64 (n : Int))).run Try.prog W = .ok (.slice (some ⟨W.heap.size, 0, none⟩) n n) (W.alloc (.cells M 5)) := by
  obtain ⟨i9, hi9, hz9, hs9, hb9⟩ := info_parts5
  refine ⟨madeCells (Value.int .u8 0).cells (n * i9.size), ?_, fun W => ?_⟩
  · rw [hs9, Nat.mul_one]
    show (madeCells #[.int .u8 0] n).toList = _
    rw [made_list]
    simp [byC]
  · have h := run_make (P := Try.prog) W 34 5 i9 (.int .u8 0) Try.underlying34 hi9 hz9 .i64 .i64 (n : Int) (n : Int) (by omega) (by omega) (by rw [hb9]; omega) (by omega)
    simpa using h
/-- a block of one's own reads as what lies in it -/
theorem BR.of_block {w : World} {b c : Nat} {l : List UInt8} {cs : Array Value} {t : TypeId} (h : w.heap[b]? = some (.cells cs t (0, 0))) (hc : cs.toList = byC l) : BR w (.slice (some ⟨b, 0, none⟩) l.length c) l := by
  refine ⟨_, _, rfl, fun hn => ⟨_, rfl, (Array.getElem?_eq_some_iff.1 h).1, fun j u hj => ?_⟩⟩
  have h2 := cell_of_row w b j cs t (0, 0) h
  have e : (Addr.add ⟨b, 0, none⟩ j) = ⟨b, j, none⟩ := by
    unfold Addr.add
    split
    · rename_i h0; subst h0; rfl
    · simp
  rw [e, h2, ← Array.getElem?_toList, hc]
  exact hj

set_option maxHeartbeats 1000000 in
theorem take_any {w : World} {B : Nat} {s : Rs} (h : RdQ w B s) (n : Nat) (hn : n ≤ 1000) (hl : s.1.length ≤ 281474976710656) : Calls Try.prog 61 #[.pointer (some ⟨B, 0, none⟩), .int .i64 n] w (TakeR B n s w) := by
  unfold TakeR
  obtain ⟨l, bad⟩ := s
  have H := Lib.hid h
  obtain ⟨v, hblk, hv⟩ := h.ex
  simp only at hblk hv hl
  have HV := Lib.hid hv
  have HBLK := Lib.hid hblk
  have hlt : B < w.heap.size := (Array.getElem?_eq_some_iff.1 hblk).1
  obtain ⟨A, c, rfl, hc, _, hA⟩ := hv
  obtain ⟨m, hM⟩ : ∃ m, l.length = m := ⟨_, rfl⟩
  have HM := Lib.hid hM
  rw [hM] at hblk HV HBLK hc hl
  clear hM
  have c0 : w.cell? ⟨B, 0, none⟩ = some (.slice A m c) := by rw [cell_of_row _ _ 0 _ 76 (0, 0) hblk]; rfl
  have c1 : w.cell? ⟨B, 1, none⟩ = some (.bool bad) := by rw [cell_of_row _ _ 1 _ 76 (0, 0) hblk]; rfl
  have f0 := Go.Joins.unfrozen_of_block hblk 0
  have f1 := Go.Joins.unfrozen_of_block hblk 1
  clear hblk h
  by_cases hbad : bad = true ∨ m < n
  · have HTK := Lib.hid (show tk n (l, bad) = (List.replicate n 0, (l, true)) by unfold tk; rw [if_pos (by simpa [HM.out] using hbad)])
    obtain ⟨M, hM1, hM2⟩ := run_fill n hn
    have HM1 := Lib.hid hM1
    have hb1 := Go.Joins.block_setCell HBLK.out (i := 1) (.bool true)
    have hb2 : ((w.setCell ⟨B, 1, none⟩ (.bool true)).alloc (.cells M 5)).heap[B]? = some (.cells #[.slice A m c, .bool true] 76 (0, 0)) := (Below.heap_alloc _ _ _ (by simpa using hlt)).trans hb1
    have HQ := Lib.hid (show RdQ ((w.setCell ⟨B, 1, none⟩ (.bool true)).alloc (.cells M 5)) B (l, true) from ⟨_, hb2, (HV.out.keepB (keep_set2 w B 1 (.bool true))).keepB (Keep.of_below ((Below.refl _ _).alloc (Nat.le_refl _) _))⟩)
    have HBR := Lib.hid (show BR ((w.setCell ⟨B, 1, none⟩ (.bool true)).alloc (.cells M 5)) (.slice (some ⟨(w.setCell ⟨B, 1, none⟩ (.bool true)).heap.size, 0, none⟩) n n) (List.replicate n 0) by
      have := BR.of_block (c := n) (heap_alloc_new (w.setCell ⟨B, 1, none⟩ (.bool true)) (.cells M 5)) HM1.out
      rwa [List.length_replicate] at this)
    have HK := Lib.hid ((keep_set2 w B 1 (.bool true)).trans (q := fun k => k ≠ B) (Keep.of_below ((Below.refl _ (w.setCell ⟨B, 1, none⟩ (.bool true))).alloc (Nat.le_refl _) (.cells M 5))) (fun _ _ h => h))
    rw [HTK.out]
    clear hb1 hb2 hM1 hA hc
    cases bad with
    | true =>
      go_enter Try.func61, Try.ntmps61
      go_wp2_with fail
      go_ret
      exact ⟨_, _, rfl, by simpa using HBR.out, HQ.out, HK.out, (fun _ ad e => by injection e with e; subst e; exact .inr (by simp))⟩
    | false =>
      have hmn : (m : Int) < (n : Int) := by rcases hbad with h | h; · cases h
                                             · omega
      clear hbad
      go_enter Try.func61, Try.ntmps61
      go_wp2_with fail
      go_ret
      exact ⟨_, _, rfl, by simpa using HBR.out, HQ.out, HK.out, (fun _ ad e => by injection e with e; subst e; exact .inr (by simp))⟩
  · have hb0 : bad = false := by cases bad <;> simp_all
    subst hb0
    have hnm : n ≤ m := by omega
    have hnmi : ¬ ((m : Int) < (n : Int)) := by omega
    have HTK := Lib.hid (show tk n (l, false) = (l.take n, (l.drop n, false)) by unfold tk; rw [if_neg (by simp [HM.out]; omega)])
    rw [HTK.out]
    have hnc : n ≤ c := by omega
    clear hbad
    cases A with
    | none =>
      have hc0 : c = 0 := hA rfl
      subst hc0
      obtain rfl : m = 0 := by omega
      obtain rfl : n = 0 := by omega
      have hl0 : l = [] := List.eq_nil_of_length_eq_zero HM.out
      subst hl0
      have HQ := Lib.hid (show RdQ (w.setCell ⟨B, 0, none⟩ (.slice none 0 0)) B ([], false) from ⟨_, Go.Joins.block_setCell HBLK.out (i := 0) (.slice none 0 0), HV.out.keepB (keep_set2 w B 0 _)⟩)
      clear hc hA hl
      go_enter Try.func61, Try.ntmps61
      go_wp2_with fail
      go_ret
      exact ⟨_, _, rfl, BR.nil _ _ _, HQ.out, keep_set2 w B 0 _⟩
    | some ad =>
      have HS := Lib.hid (And.intro (HV.out.take hnm) (HV.out.drop hnm))
      have HAD := Lib.hid (show 0 < m → ad.block < B from fun h0 => by
        obtain ⟨A', c', e, _, hh, _⟩ := HV.out
        injection e with e1 e2 e3
        obtain ⟨ad', p1, p2, _⟩ := hh (by omega)
        rw [p1] at e1
        injection e1 with e1
        rw [e1]
        exact p2)
      clear hA
      by_cases hck : c = n
      · have HD := Lib.hid (show SB w B (.slice (some ad) 0 0) (l.drop n) by have h1 := HS.out.2; have h2 : m - n = 0 := (by omega); rw [if_pos hck, hck, Nat.sub_self, h2] at h1; exact h1)
        subst hck
        have HQ := Lib.hid (show RdQ (w.setCell ⟨B, 0, none⟩ (.slice (some ad) 0 0)) B (l.drop c, false) from ⟨_, Go.Joins.block_setCell HBLK.out (i := 0) (.slice (some ad) 0 0), HD.out.keepB (keep_set2 w B 0 _)⟩)
        go_enter Try.func61, Try.ntmps61
        go_wp2_with fail
        go_ret
        exact ⟨_, _, rfl, (HS.out.1.keepB (keep_set2 w B 0 _)).br, HQ.out, keep_set2 w B 0 _, (fun h0 ad' e => by injection e with e; subst e; exact .inl (HAD.out (by omega)))⟩
      · have HD := Lib.hid (show SB w B (.slice (some (ad.add n)) (m - n) (c - n)) (l.drop n) by have := HS.out.2; rwa [if_neg hck] at this)
        have hck2 : ¬ c - n = 0 := by omega
        have HQ := Lib.hid (show RdQ (w.setCell ⟨B, 0, none⟩ (.slice (some (ad.add n)) (m - n) (c - n))) B (l.drop n, false) from ⟨_, Go.Joins.block_setCell HBLK.out (i := 0) (.slice (some (ad.add n)) (m - n) (c - n)), HD.out.keepB (keep_set2 w B 0 _)⟩)
        go_enter Try.func61, Try.ntmps61
        go_wp2_with fail
        go_ret
        exact ⟨_, _, rfl, (HS.out.1.keepB (keep_set2 w B 0 _)).br, HQ.out, keep_set2 w B 0 _, (fun h0 ad' e => by injection e with e; subst e; exact .inl (HAD.out (by omega)))⟩

def RTextR (B : Nat) (s : Rs) (w : World) (e : Ending) (w' : World) : Prop := e = .returned (.string (rT s).1) ∧ RdQ w' B (rT s).2 ∧ Keep (fun k => k ≠ B) w w'
def RNumR (B : Nat) (s : Rs) (w : World) (e : Ending) (w' : World) : Prop := e = .returned (.int .i64 (rN s).1) ∧ RdQ w' B (rN s).2 ∧ Keep (fun k => k ≠ B) w w'
end Go.Proofs.Ytpoefcpgcojppaa
