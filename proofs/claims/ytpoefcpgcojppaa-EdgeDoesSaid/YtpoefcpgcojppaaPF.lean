/- Walk of what puts a value behind bytes. -/
import Derived.Test.YtpoefcpgcojppaaPE
namespace Go.Proofs.Ytpoefcpgcojppaa
open Go.ChangeShapes Go.WideShapes Go.ChangeAt Go.RowKit
set_option linter.unusedVariables false

/-- a value's three cells in a block of its own -/
structure Bx3 (w : World) (b : Nat) (v0 v1 v2 : Value) : Prop where
  c0 : w.cell? ⟨b, 0, none⟩ = some v0
  c1 : w.cell? ⟨b, 1, none⟩ = some v1
  c2 : w.cell? ⟨b, 2, none⟩ = some v2
  lt : b < w.heap.size
theorem Bx3.of {w : World} {b : Nat} {v0 v1 v2 : Value} {t : TypeId} (h : w.heap[b]? = some (.cells #[v0, v1, v2] t (0, 0))) : Bx3 w b v0 v1 v2 :=
  ⟨by rw [cell_of_row _ _ 0 _ t (0, 0) h]; rfl, by rw [cell_of_row _ _ 1 _ t (0, 0) h]; rfl, by rw [cell_of_row _ _ 2 _ t (0, 0) h]; rfl, (Array.getElem?_eq_some_iff.1 h).1⟩
theorem Bx3.new (w : World) (v0 v1 v2 : Value) (t : TypeId) : Bx3 (w.alloc (.cells #[v0, v1, v2] t)) w.heap.size v0 v1 v2 := Bx3.of (heap_alloc_new w _)
theorem Bx3.grw {w w' : World} {b : Nat} {v0 v1 v2 v v' : Value} (h : Bx3 w b v0 v1 v2) (hb : Grw w v w' v') (hne : some b ≠ v.ownBlock) : Bx3 w' b v0 v1 v2 :=
  ⟨(hb.cell (a := ⟨b, 0, none⟩) h.lt hne).trans h.c0, (hb.cell (a := ⟨b, 1, none⟩) h.lt hne).trans h.c1, (hb.cell (a := ⟨b, 2, none⟩) h.lt hne).trans h.c2, Nat.lt_of_lt_of_le h.lt hb.gr.size⟩
theorem own_ne {w : World} {base n : Nat} {t : TypeId} {sz : Nat} {v : Value} {xs : List Value} (h : w.ownsRow base t sz v n xs) {b : Nat} (hb : w.heap.size ≤ b) : some b ≠ v.ownBlock := fun e => by
  have := own_lt h b e.symm
  omega

theorem valB_num (n : Int) : valB (1, n, ⟨#[]⟩) = [oct 1] ++ num6 (n + 1099511627776) := rfl
theorem valB_text (t : ByteArray) : valB (2, 0, t) = [oct 2] ++ (txts [t]) := by simp [valB, txts]

set_option maxHeartbeats 2000000 in
set_option maxRecDepth 100000 in
theorem putValue_any {base : Nat} {w : World} {v : Value} {l : List UInt8} {x : Vt} (hx : rightV x = true) (hown : w.ownsRow base 5 1 v l.length (byC l)) (hbase : base ≤ w.heap.size) (hl : l.length ≤ 900000) :
    Calls Try.prog 40 #[v, .agg #[.int .i64 x.1, .int .i64 x.2.1, .string x.2.2]] w (PutR base v (l ++ valB x) w) := by
  obtain ⟨i0, hi, hz0, hz1, hz2⟩ := info_parts5
  unfold PutR
  rcases right_cases hx with ⟨n, rfl, n1, n2⟩ | ⟨t, rfl, ht⟩
  · rw [valB_num, ← List.append_assoc]
    have hbx := Bx3.new w (.int .i64 1) (.int .i64 n) (.string ⟨#[]⟩) 31
    have HBX := Lib.hid hbx
    have HNE := Lib.hid (own_ne hown (Nat.le_refl w.heap.size))
    have hr : (w.alloc (.cells #[.int .i64 1, .int .i64 n, .string ⟨#[]⟩] 31)).ownsRow base 5 1 v l.length (byC l) := hown.alloc _
    have hsz : (w.alloc (.cells #[.int .i64 1, .int .i64 n, .string ⟨#[]⟩] 31)).heap.size = w.heap.size + 1 := by simp
    have HGA := Lib.hid (Grw.alloc (w := w) v (.cells #[.int .i64 1, .int .i64 n, .string ⟨#[]⟩] 31))
    have hwn : IntKind.i64.wrap (n + 1099511627776) = n + 1099511627776 := by rw [IntKind.wrap_i64]; omega
    clear hbx hx
    have hone : ∀ j u, [Value.int .u8 1][j]? = some u → ((w.alloc (.cells #[.int .i64 1, .int .i64 n, .string ⟨#[]⟩] 31)).alloc (.cells #[.int .u8 1] 5)).cell? ((⟨w.heap.size + 1, 0, none⟩ : Addr).add j) = some u := by
      have h := cell_one_new (w.alloc (.cells #[.int .i64 1, .int .i64 n, .string ⟨#[]⟩] 31)) (.int .u8 1) 5
      rw [hsz] at h
      exact h
    go_enter Try.func40, Try.ntmps40
    go_wp2_with (first | (at_builtin; refine wpList_append_own_at _ rfl _ _ 34 rfl base 5 i0 (.int .u8 0) 1 1 Try.underlying34 hi hz0 hz1 hz2 rfl (by decide) _ l.length (byC l) rfl (hr.alloc _) ⟨w.heap.size + 1, 0, none⟩ 1 1 [.int .u8 1] rfl rfl hone (by simp [Value.oneCell']) (by unfold maxLen; omega) (by omega) (by rw [World.size_alloc, hsz]; omega) ?_; intro v1 w1 r1 r2 r3 r4; have hg1 := HGA.out.trans ((Grw.alloc v (.cells #[.int .u8 1] 5)).trans (Grw.of_at r2 r4)); have HG1 := Lib.hid hg1; have HX1 := Lib.hid (HBX.out.grw ((Grw.alloc v (.cells #[.int .u8 1] 5)).trans (Grw.of_at r2 r4)) HNE.out); obtain ⟨c0, c1, c2, _⟩ := HX1.out; have HR1 := Lib.hid (show w1.ownsRow base 5 1 v1 (l ++ [oct 1]).length (byC (l ++ [oct 1])) by rw [byC_app, List.length_append]; exact r1); clear r1 r2 r3 r4 hg1 hr hone) | (go_at_call 38; refine (putNumber_any HR1.out (Nat.le_trans hbase HG1.out.gr.size) (by simp; omega)).mono ?_; rintro e w2 ⟨v2, rfl, p1, p2⟩))
    go_ret
    exact ⟨_, rfl, p1, HG1.out.trans p2⟩
  · rw [valB_text, ← List.append_assoc]
    have hbx := Bx3.new w (.int .i64 2) (.int .i64 0) (.string t) 31
    have HBX := Lib.hid hbx
    have HNE := Lib.hid (own_ne hown (Nat.le_refl w.heap.size))
    have hr : (w.alloc (.cells #[.int .i64 2, .int .i64 0, .string t] 31)).ownsRow base 5 1 v l.length (byC l) := hown.alloc _
    have hsz : (w.alloc (.cells #[.int .i64 2, .int .i64 0, .string t] 31)).heap.size = w.heap.size + 1 := by simp
    have HGA := Lib.hid (Grw.alloc (w := w) v (.cells #[.int .i64 2, .int .i64 0, .string t] 31))
    have HT := Lib.hid (show (txts [t]).length ≤ 41 by have := isT_size ht; have := txt_len t; simp [txts]; omega)
    clear hbx hx
    have hone : ∀ j u, [Value.int .u8 2][j]? = some u → ((w.alloc (.cells #[.int .i64 2, .int .i64 0, .string t] 31)).alloc (.cells #[.int .u8 2] 5)).cell? ((⟨w.heap.size + 1, 0, none⟩ : Addr).add j) = some u := by
      have h := cell_one_new (w.alloc (.cells #[.int .i64 2, .int .i64 0, .string t] 31)) (.int .u8 2) 5
      rw [hsz] at h
      exact h
    go_enter Try.func40, Try.ntmps40
    go_wp2_with (first | (at_builtin; refine wpList_append_own_at _ rfl _ _ 34 rfl base 5 i0 (.int .u8 0) 1 1 Try.underlying34 hi hz0 hz1 hz2 rfl (by decide) _ l.length (byC l) rfl (hr.alloc _) ⟨w.heap.size + 1, 0, none⟩ 1 1 [.int .u8 2] rfl rfl hone (by simp [Value.oneCell']) (by unfold maxLen; omega) (by omega) (by rw [World.size_alloc, hsz]; omega) ?_; intro v1 w1 r1 r2 r3 r4; have hg1 := HGA.out.trans ((Grw.alloc v (.cells #[.int .u8 2] 5)).trans (Grw.of_at r2 r4)); have HG1 := Lib.hid hg1; have HX1 := Lib.hid (HBX.out.grw ((Grw.alloc v (.cells #[.int .u8 2] 5)).trans (Grw.of_at r2 r4)) HNE.out); obtain ⟨c0, c1, c2, _⟩ := HX1.out; have HR1 := Lib.hid (show w1.ownsRow base 5 1 v1 (l ++ [oct 2]).length (byC (l ++ [oct 2])) by rw [byC_app, List.length_append]; exact r1); clear r1 r2 r3 r4 hg1 hr hone) | (go_at_call 39; refine (putTexts_any (gb := w1.heap.size) (ts := [t]) (HR1.out.alloc (.cells #[.string t] 9)) rfl (fun j hj => by have h := cell_one_new w1 (.string t) 9 j; match j, hj, h with | 0, _, h => exact h _ rfl) (by simp) (own_ne HR1.out (Nat.le_refl _)) (by have := HG1.out.gr.size; simp; omega) (by have := HT.out; simp only [List.length_append, List.length_singleton] at *; omega)).mono ?_; rintro e w2 ⟨v2, rfl, p1, p2⟩))
    go_ret
    exact ⟨_, rfl, p1, (HG1.out.trans (Grw.alloc v1 (.cells #[.string t] 9))).trans p2⟩
end Go.Proofs.Ytpoefcpgcojppaa
