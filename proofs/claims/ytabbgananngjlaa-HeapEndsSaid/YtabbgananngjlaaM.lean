/- Words for 'taken': those up to a key, so many at most; what lies where while they are gone through. -/
import Derived.Test.YtabbgananngjlaaL
namespace Go.Proofs.Ytabbgananngjlaa
open Go.ChangeShapes Go.WideShapes Go.ChangeAt Go.RowKit Go.Shelf
set_option linter.unusedVariables false

/-- of items in order: those up to a key, so many at most; what stays -/
def tk (key : Int) : Nat → List It → List It × List It
  | 0, S => ([], S)
  | _ + 1, [] => ([], [])
  | m + 1, x :: S => if x.1 ≤ key then (x :: (tk key m S).1, (tk key m S).2) else ([], x :: S)

theorem tk_stop (key : Int) (m : Nat) {S : List It} (h : 0 < S.length → key < (g S 0).1) : tk key m S = ([], S) := by
  cases m with
  | zero => rfl
  | succ m =>
    cases S with
    | nil => rfl
    | cons x S =>
      have hx : ¬ x.1 ≤ key := by have := h (by simp); simp [g] at this; omega
      simp [tk, hx]

theorem srt_cut {L : List It} (h : Heap L) (h0 : 0 < L.length) : srt L = g L 0 :: srt (cutL L) := by
  obtain ⟨S, hS⟩ := heap_first h h0
  rw [hS]
  have h1 : Srt (g L 0 :: S) := by rw [← hS]; exact srt_srt L
  have h2 : (g L 0 :: S).Perm (g L 0 :: cutL L) := by rw [← hS]; exact (srt_perm L).trans (cut_perm h0).symm
  have h3 : S.Perm (cutL L) := h2.cons_inv
  rw [← srt_of h1.tail, srt_congr h3]

theorem tk_go {key : Int} {m : Nat} {L : List It} (h : Heap L) (h0 : 0 < L.length) (hk : (g L 0).1 ≤ key) : tk key (m + 1) (srt L) = (g L 0 :: (tk key m (srt (cutL L))).1, (tk key m (srt (cutL L))).2) := by
  rw [srt_cut h h0]
  simp [tk, hk]

theorem srt_g0 {L : List It} (h : Heap L) : 0 < L.length → g (srt L) 0 = g L 0 := fun h0 => by rw [srt_cut h h0]; rfl

/-- a box's block is no row's, nor the heap's -/
theorem boxed_off {W : World} {B b : Nat} {t : TypeId} {u sv : Value} {L : List It} (h : Boxed W B t u) (ht : t ≠ 40) (hB : B ≠ b) (hb : Hb W b sv L) : Off b sv B := ⟨hB, fun e => h.not_row ht hb.row e.symm⟩

/-- what lies where while the items of UpTo are gone through: s: how great the memory was at first; r: what the result's box holds, N, key: as they were given -/
structure Tk (w : World) (b : Nat) (sv : Value) (n : Nat) (key : Int) (N : Int) (r : Value) (out : List It) (v sv1 : Value) (M : List It) (W : World) : Prop where
  b0 : Boxed W w.heap.size 3 (.int .i64 N)
  b1 : Boxed W (w.heap.size + 1) 22 r
  b2 : Boxed W (w.heap.size + 1 + 1) 22 v
  b3 : Boxed W (w.heap.size + 1 + 1 + 1) 26 (.pointer (some ⟨b, 0, none⟩))
  b4 : Boxed W (w.heap.size + 1 + 1 + 1 + 1) 3 (.int .i64 key)
  row : W.ownsRow (w.heap.size + 1 + 1 + 1 + 1 + 1) 40 2 v out.length (flat out)
  hb : Hb W b sv1 M
  hh : Heap M
  ml : M.length ≤ n
  off : ∀ g, v.ownBlock = some g → Off b sv1 g
  loc : Loc w sv sv1
  keep : Keep (Off b sv) w W
  blt : b < w.heap.size
  size : w.heap.size + 1 + 1 + 1 + 1 + 1 ≤ W.heap.size

theorem hb_grown {W W' : World} {row : Option Nat} {b : Nat} {sv : Value} {L : List It} (h : Hb W b sv L) (hg : W.grownBy W' row) (hr : ∀ r, row = some r → r ≠ b ∧ sv.ownBlock ≠ some r) : Hb W' b sv L :=
  h.keep (p := fun k => row ≠ some k) (Keep.of_grown hg fun k _ hp e => hp e.symm) fun k _ hk e => by
    obtain ⟨h1, h2⟩ := hr k e
    rcases hk with rfl | hk
    · exact h1 rfl
    · exact h2 hk

theorem Hb.offk {W : World} {b : Nat} {sv : Value} {L : List It} (h : Hb W b sv L) {k : Nat} {o : Obj} (hk : W.heap[k]? = some o) (ho : o.isCells = false) : Off b sv k := by
  refine ⟨?_, ?_⟩
  · rintro rfl
    rw [h.blk] at hk
    cases hk
    cases ho
  · intro e
    rcases h.row.2 with ⟨rfl, _⟩ | ⟨g, cap, cur, rfl, _, hh, _⟩
    · simp [Value.ownBlock] at e
    · obtain rfl : g = k := by simpa [Value.ownBlock] using e
      rw [hh] at hk
      cases hk
      cases ho
theorem row_offk {W : World} {base e sz n : Nat} {v : Value} {xs : List Value} (h : W.ownsRow base e sz v n xs) {k : Nat} {o : Obj} (hk : W.heap[k]? = some o) (ho : o.isCells = false) : v.ownBlock ≠ some k := by
  intro e'
  rcases h.2 with ⟨rfl, _⟩ | ⟨g, cap, cur, rfl, _, hh, _⟩
  · simp [Value.ownBlock] at e'
  · obtain rfl : g = k := by simpa [Value.ownBlock] using e'
    rw [hh] at hk
    cases hk
    cases ho

theorem Tk.grown {w : World} {b : Nat} {sv : Value} {n : Nat} {key N : Int} {r : Value} {out : List It} {v sv1 : Value} {M : List It} {W W' : World} (h : Tk w b sv n key N r out v sv1 M W) {row : Option Nat} (hg : W.grownBy W' row)
    (hr : ∀ r, row = some r → w.heap.size + 1 + 1 + 1 + 1 + 1 ≤ r ∧ ∃ o : Obj, W.heap[r]? = some o ∧ o.isCells = false) : Tk w b sv n key N r out v sv1 M W' := by
  have hn : ∀ B, B < w.heap.size + 1 + 1 + 1 + 1 + 1 → some B ≠ row := fun B hB e => by have := (hr B e.symm).1; omega
  refine ⟨h.b0.kept hg (hn _ (by omega)), h.b1.kept hg (hn _ (by omega)), h.b2.kept hg (hn _ (by omega)), h.b3.kept hg (hn _ (by omega)), h.b4.kept hg (hn _ (by omega)), ?_, ?_, h.hh, h.ml, h.off, h.loc, ?_, h.blt, Nat.le_trans h.size hg.size⟩
  · rcases hv : v.ownBlock with _ | k
    · exact h.row.kept hg (.inl hv)
    · refine h.row.kept hg (.inr fun e => ?_)
      rw [hv] at e
      obtain ⟨_, o, ho, hc⟩ := hr k e.symm
      exact row_offk h.row ho hc hv
  · refine hb_grown h.hb hg fun k e => ?_
    obtain ⟨_, o, ho, hc⟩ := hr k e
    obtain ⟨h1, h2⟩ := h.hb.offk ho hc
    exact ⟨h1, h2⟩
  · refine h.keep.trans (q := fun k => k < w.heap.size) (Keep.of_grown hg fun k _ hk => hn k (by omega)) fun k hk _ => hk

/-- the first one was taken -/
theorem Tk.pop {w : World} {b : Nat} {sv : Value} {n : Nat} {key N : Int} {r : Value} {out : List It} {v sv1 : Value} {M : List It} {W W' : World} (h : Tk w b sv n key N r out v sv1 M W) (ht : Turn W b sv1 (cutL M) W') :
    ∃ sv2 M2, Tk w b sv n key N r out v sv2 M2 W' ∧ M2.Perm (cutL M) := by
  obtain ⟨sv2, M2, hb2, hp2, hh2, hl2, hk2⟩ := ht
  have hbk : ∀ {B : Nat} {t : TypeId} {u : Value}, Boxed W B t u → t ≠ 40 → w.heap.size ≤ B → Boxed W' B t u := fun hB ht hle => (hk2.block _ hB.lt (boxed_off hB ht (by have := h.blt; omega) h.hb)).trans hB
  refine ⟨sv2, M2, ⟨hbk h.b0 (by decide) (Nat.le_refl _), hbk h.b1 (by decide) (by omega), hbk h.b2 (by decide) (by omega), hbk h.b3 (by decide) (by omega), hbk h.b4 (by decide) (by omega), ?_, hb2, hh2, ?_, ?_, ?_, ?_, h.blt, Nat.le_trans h.size hk2.size⟩, hp2⟩
  · exact own_keep h.row hk2 h.off
  · have := hp2.length_eq; have := cut_len M; have := h.ml; omega
  · exact fun g hg => hl2.off (h.row.lt g hg).2 (h.off g hg)
  · exact h.loc.trans (by have := h.size; omega) hl2
  · exact h.keep.off_trans h.loc hk2

/-- an item was put behind those that were taken -/
theorem Tk.app {w : World} {b : Nat} {sv : Value} {n : Nat} {key N : Int} {r : Value} {out : List It} {v sv1 v' : Value} {M : List It} {W w2 : World} {o : Obj} {x : It} (h : Tk w b sv n key N r out v sv1 M W)
    (hown : w2.ownsRow (w.heap.size + 1 + 1 + 1 + 1 + 1) 40 2 v' (out.length + 1) (flat out ++ [.int .i64 x.1, .int .i64 x.2])) (hg : (W.alloc o).grownBy w2 v.ownBlock) (hat : v'.ownBlock = v.ownBlock ∨ v'.ownBlock = some (W.alloc o).heap.size) :
    Boxed w2 (w.heap.size + 1 + 1) 22 v ∧ Boxed w2 w.heap.size 3 (.int .i64 N) ∧ Boxed w2 (w.heap.size + 1) 22 r ∧ KeepsOthers W w2 ∧ Tk w b sv n key N r (out ++ [x]) v' sv1 M (w2.setCell ⟨w.heap.size + 1 + 1, 0, none⟩ v') := by
  have hk2 : Keep (fun k => v.ownBlock ≠ some k) W w2 := (Keep.of_below ((Below.refl _ W).alloc (Nat.le_refl _) o)).trans (Keep.of_grown hg fun k _ hp e => hp e.symm) fun _ _ h => h
  have hbk : ∀ {B : Nat} {t : TypeId} {u : Value}, Boxed W B t u → t ≠ 40 → Boxed w2 B t u := fun hB ht => (hk2.block _ hB.lt fun e => hB.not_row ht h.row e.symm).trans hB
  have hlo : ∀ g, v.ownBlock = some g → w.heap.size + 1 + 1 + 1 + 1 + 1 ≤ g := fun g e => (h.row.lt g e).1
  have hb2 : Hb w2 b sv1 M := h.hb.keep hk2 fun k hk hkk e => by
    rcases hkk with rfl | hs
    · have := hlo _ e; have := h.blt; omega
    · exact (h.off k e).2 hs
  have hsz : w.heap.size + 1 + 1 + 1 + 1 + 1 ≤ w2.heap.size := Nat.le_trans h.size hk2.size
  have c0 := hbk h.b0 (by decide)
  have c1 := hbk h.b1 (by decide)
  have c2 := hbk h.b2 (by decide)
  have c3 := hbk h.b3 (by decide)
  have c4 := hbk h.b4 (by decide)
  have hg2 := grownBy_setCell' w2 (w.heap.size + 1 + 1) v'
  refine ⟨c2, c0, c1, ?_, c0.other (by omega) _, c1.other (by omega) _, c2.set _, c3.other (by omega) _, c4.other (by omega) _, ?_, ?_, h.hh, h.ml, ?_, h.loc, ?_, h.blt, by simp only [World.size_setCell]; exact hsz⟩
  · refine (KeepsOthers.alloc W o).trans (KeepsOthers.of_grownBy hg fun j o' ej hj => ?_)
    rcases (h.row.alloc o).2 with ⟨rfl, _⟩ | ⟨g, cap, cur, rfl, _, hgb, _⟩
    · simp [Value.ownBlock] at ej
    · obtain rfl : g = j := by simpa [Value.ownBlock] using ej
      rw [hgb] at hj; cases hj; rfl
  · have hr := ownsRow_setCell_below hown (a := ⟨w.heap.size + 1 + 1, 0, none⟩) (by simp) v'
    rw [List.length_append, flat_app]
    exact hr
  · refine hb_grown hb2 hg2 fun k e => ?_
    cases e
    exact ⟨by have := h.blt; omega, fun e => c2.not_row (by decide) hb2.row e.symm⟩
  · intro g e
    rcases hat with h1 | h1
    · rw [h1] at e; exact h.off g e
    · rw [h1] at e
      cases e
      exact h.hb.off (by simp)
  · refine Keep.setCell (h.keep.trans hk2 fun k hk _ e => ?_) _ _ fun k hk _ => by simp only []; omega
    have := hlo _ e
    omega
end Go.Proofs.Ytabbgananngjlaa
