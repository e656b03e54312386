/- What lies where while items are popped and put behind each other. -/
import Derived.Test.YtabbgananngjlaaR
namespace Go.Proofs.Ytabbgananngjlaa
open Go.ChangeShapes Go.WideShapes Go.ChangeAt Go.RowKit
set_option linter.unusedVariables false

structure Po (w : World) (b : Nat) (sv0 : Value) (n : Nat) (out : List It) (v sv : Value) (M : List It) (W : World) : Prop where
  row : W.ownsRow w.heap.size 40 2 v out.length (flat out)
  hb : Hb W b sv M
  hh : Heap M
  ml : M.length ≤ n
  off : ∀ g, v.ownBlock = some g → Off b sv g
  loc : Loc w sv0 sv
  keep : Keep (Off b sv0) w W
  blt : b < w.heap.size

theorem Po.start {w : World} {b : Nat} {sv : Value} {L : List It} (h : Hb w b sv L) (hh : Heap L) : Po w b sv L.length [] (.slice none 0 0) sv L w :=
  ⟨World.ownsRow_nil _ _ _ _, h, hh, Nat.le_refl _, (fun g e => by cases e), (fun g hg => .inl hg), Keep.refl _ _, h.ltb⟩
theorem Po.below {w : World} {b : Nat} {sv0 : Value} {n : Nat} {out : List It} {v sv : Value} {M : List It} {W W' : World} (h : Po w b sv0 n out v sv M W) (hb : Below W.heap.size W W') : Po w b sv0 n out v sv M W' :=
  ⟨own_keep h.row (p := fun _ => True) (Keep.of_below hb) (fun _ _ => trivial), h.hb.below hb, h.hh, h.ml, h.off, h.loc, h.keep.trans (q := fun _ => True) (Keep.of_below hb) (fun _ _ _ => trivial), h.blt⟩
theorem Po.pop {w : World} {b : Nat} {sv0 : Value} {n : Nat} {out : List It} {v sv : Value} {M : List It} {W W' : World} (h : Po w b sv0 n out v sv M W) (ht : Turn W b sv (cutL M) W') : ∃ sv2 M2, Po w b sv0 n out v sv2 M2 W' ∧ M2.Perm (cutL M) := by
  obtain ⟨sv2, M2, hb2, hp2, hh2, hl2, hk2⟩ := ht
  refine ⟨sv2, M2, ⟨own_keep h.row hk2 h.off, hb2, hh2, ?_, ?_, ?_, h.keep.off_trans h.loc hk2, h.blt⟩, hp2⟩
  · have := hp2.length_eq; have := cut_len M; have := h.ml; omega
  · exact fun g hg => hl2.off (h.row.lt g hg).2 (h.off g hg)
  · exact h.loc.trans h.keep.size hl2
theorem Po.app {w : World} {b : Nat} {sv0 : Value} {n : Nat} {out : List It} {v sv v' : Value} {M : List It} {W w2 : World} {o : Obj} {x : It} (h : Po w b sv0 n out v sv M W)
    (hown : w2.ownsRow w.heap.size 40 2 v' (out.length + 1) (flat out ++ [.int .i64 x.1, .int .i64 x.2])) (hg : (W.alloc o).grownBy w2 v.ownBlock) (hat : v'.ownBlock = v.ownBlock ∨ v'.ownBlock = some (W.alloc o).heap.size) :
    Po w b sv0 n (out ++ [x]) v' sv M w2 := by
  have hk2 : Keep (fun k => v.ownBlock ≠ some k) W w2 := (Keep.of_below ((Below.refl _ W).alloc (Nat.le_refl _) o)).trans (Keep.of_grown hg fun k _ hp e => hp e.symm) fun _ _ h => h
  have hlo : ∀ g, v.ownBlock = some g → w.heap.size ≤ g := fun g e => (h.row.lt g e).1
  refine ⟨?_, ?_, h.hh, h.ml, ?_, h.loc, ?_, h.blt⟩
  · rw [List.length_append, flat_app]
    exact hown
  · exact h.hb.keep hk2 fun k hk hkk e => by
      rcases hkk with rfl | hs
      · have := hlo _ e; have := h.blt; omega
      · exact (h.off k e).2 hs
  · intro g e
    rcases hat with h1 | h1
    · rw [h1] at e; exact h.off g e
    · rw [h1] at e
      cases e
      exact h.hb.off (by simp)
  · refine h.keep.trans hk2 fun k hk _ e => ?_
    have := hlo _ e
    omega
theorem Po.at {w : World} {b : Nat} {sv0 : Value} {n : Nat} {out : List It} {v sv : Value} {M : List It} {W : World} (h : Po w b sv0 n out v sv M W) {k : Nat} (hk : k < out.length) :
    ∃ gg c, v = .slice (some ⟨gg, 0, none⟩) out.length c ∧ W.cell? ⟨gg, k * 2, none⟩ = some (.int .i64 (g out k).1) ∧ W.cell? ⟨gg, k * 2 + 1, none⟩ = some (.int .i64 (g out k).2) := by
  obtain ⟨A, c, rfl, hf, _⟩ := row_form h.row
  obtain ⟨gg, rfl, _⟩ := hf (by omega)
  obtain ⟨c1, c2⟩ := row_at h.row hk
  exact ⟨gg, c, rfl, c1, c2⟩
theorem srt_le {S : List It} (h : Srt S) {i j : Nat} (hij : i < j) (hj : j < S.length) : le (g S i) (g S j) = true := by
  rw [g_get hj, g_get (by omega)]
  exact List.pairwise_iff_getElem.1 h i j (by omega) hj hij
theorem g_take {S : List It} {k i : Nat} (h : i < k) : g (S.take k) i = g S i := by simp [g, List.getElem?_take_of_lt h]
end Go.Proofs.Ytabbgananngjlaa
