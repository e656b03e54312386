/- What lies where while HeapGoes goes through the items of a heap and pushes into it. -/
import Derived.Test.YtabbgananngjlaaR
namespace Go.Proofs.Ytabbgananngjlaa
open Go.ChangeShapes Go.WideShapes Go.ChangeAt Go.RowKit Go.Shelf
set_option linter.unusedVariables false

/-- how many items have a key up to a key -/
def cp (key : Int) (L : List It) : Nat := L.countP fun x => decide (x.1 ≤ key)
theorem cp_perm {key : Int} {L M : List It} (h : L.Perm M) : cp key L = cp key M := h.countP_eq _
theorem cp_cons (key : Int) (x : It) (L : List It) : cp key (x :: L) = cp key L + (if x.1 ≤ key then 1 else 0) := by
  unfold cp
  rw [List.countP_cons]
  by_cases h : x.1 ≤ key <;> simp [h]
theorem cp_le (key : Int) (L : List It) : cp key L ≤ L.length := List.countP_le_length
theorem cp_none {key : Int} {L : List It} (h : Heap L) (hk : 0 < L.length → key < (g L 0).1) : cp key L = 0 := by
  unfold cp
  rw [List.countP_eq_zero]
  intro x hx
  obtain ⟨i, hi, rfl⟩ := List.getElem_of_mem hx
  have h1 := heap_root h i hi
  have h2 := hk (by omega)
  rw [g_get hi, le_iff] at h1
  simp
  omega
/-- the first k -/
theorem cp_take_succ {key : Int} {L : List It} {k : Nat} (h : k < L.length) : cp key (L.take (k + 1)) = cp key (L.take k) + (if (g L k).1 ≤ key then 1 else 0) := by
  rw [List.take_succ_eq_append_getElem h, g_get h]
  unfold cp
  rw [List.countP_append]
  by_cases h : L[k].1 ≤ key <;> simp [h]

/-- what is so between two rounds: k: how many were told, y: the last one, M: what the heap holds -/
def Mid (n : Nat) (key : Int) (l : List It) (more : It) (k : Nat) (y : It) (pu : Bool) (M : List It) : Prop :=
  (k = 0 ∧ pu = false ∧ M.Perm l) ∨ (1 ≤ k ∧ pu = true ∧ k + M.length = n + 1 ∧ k + cp key M = cp key (more :: l) ∧ ∀ z ∈ M, le y z = true ∨ z = more)

theorem mid_first {n : Nat} {key : Int} {l : List It} {more : It} {M M1 M2 : List It} (hn : l.length = n) (hp : M.Perm l) (hh : Heap M) (h0 : 0 < M.length) (hk : (g M 0).1 ≤ key) (h1 : M1.Perm (cutL M)) (h2 : M2.Perm (M1 ++ [more])) (y : It) (hy : g M 0 = y) :
    Mid n key l more 1 y true M2 := by
  subst hy
  have hc := cut_perm h0
  have hM2 : M2.Perm (more :: cutL M) := h2.trans ((h1.append_right [more]).trans List.perm_append_comm)
  refine .inr ⟨Nat.le_refl _, rfl, ?_, ?_, ?_⟩
  · have h3 := hM2.length_eq
    have h4 := cut_len M
    have h5 := hp.length_eq
    simp only [List.length_cons] at h3
    omega
  · rw [cp_perm hM2, cp_cons, cp_cons, ← cp_perm (hc.trans hp), cp_cons, if_pos hk]
    omega
  · intro z hz
    have hz' := hM2.mem_iff.1 hz
    simp only [List.mem_cons] at hz'
    rcases hz' with rfl | hz'
    · exact .inr rfl
    · refine .inl ?_
      have hm : z ∈ M := hc.mem_iff.1 (List.mem_cons_of_mem _ hz')
      obtain ⟨i, hi, rfl⟩ := List.getElem_of_mem hm
      have := heap_root hh i hi
      rwa [g_get hi] at this
theorem mid_next {n : Nat} {key : Int} {l : List It} {more : It} {k : Nat} {y : It} {pu : Bool} {M M1 : List It} (h : Mid n key l more k y pu M) (hk1 : 1 ≤ k) (hh : Heap M) (h0 : 0 < M.length) (hk : (g M 0).1 ≤ key) (h1 : M1.Perm (cutL M)) :
    pu = true ∧ k ≤ n ∧ (le y (g M 0) = true ∨ g M 0 = more) ∧ Mid n key l more (k + 1) (g M 0) true M1 := by
  rcases h with ⟨h2, _⟩ | ⟨_, hpu, hl, hc, hz⟩
  · omega
  have hcp := cut_perm h0
  refine ⟨hpu, by omega, hz _ (g_mem h0), .inr ⟨by omega, rfl, ?_, ?_, ?_⟩⟩
  · have h3 := h1.length_eq
    have h4 := cut_len M
    omega
  · rw [cp_perm h1]
    rw [← cp_perm hcp, cp_cons, if_pos hk] at hc
    omega
  · intro z hz'
    refine .inl ?_
    have hm : z ∈ M := hcp.mem_iff.1 (List.mem_cons_of_mem _ (h1.mem_iff.1 hz'))
    obtain ⟨i, hi, rfl⟩ := List.getElem_of_mem hm
    have := heap_root hh i hi
    rwa [g_get hi] at this

structure Gs (w : World) (b : Nat) (sv0 : Value) (n X9 X10 X11 : Nat) (sv : Value) (M : List It) (k : Nat) (y : It) (pu : Bool) (W : World) : Prop where
  hb : Hb W b sv M
  hh : Heap M
  ml : M.length ≤ n
  loc : Loc w sv0 sv
  keep : Keep (fun i => Off b sv0 i ∧ i ≠ X9 ∧ i ≠ X10 ∧ i ≠ X11) w W
  x9 : Boxed W X9 3 (.int .i64 k)
  x10 : W.heap[X10]? = some (.cells #[.int .i64 y.1, .int .i64 y.2] 40 (0, 0))
  x11 : Boxed W X11 4 (.bool pu)
  o9 : Off b sv0 X9
  o10 : Off b sv0 X10
  o11 : Off b sv0 X11
  l9 : X9 < w.heap.size
  l10 : X10 < w.heap.size
  l11 : X11 < w.heap.size
  n1 : X9 ≠ X10
  n2 : X9 ≠ X11
  n3 : X10 ≠ X11

variable {w : World} {b : Nat} {sv0 : Value} {n X9 X10 X11 : Nat} {sv : Value} {M : List It} {k : Nat} {y : It} {pu : Bool} {W : World}

theorem Gs.below {W' : World} (h : Gs w b sv0 n X9 X10 X11 sv M k y pu W) (hb : Below W.heap.size W W') : Gs w b sv0 n X9 X10 X11 sv M k y pu W' :=
  ⟨h.hb.below hb, h.hh, h.ml, h.loc, h.keep.trans (q := fun _ => True) (Keep.of_below hb) (fun _ _ _ => trivial), (hb.block _ h.x9.lt).trans h.x9, (hb.block _ (Array.getElem?_eq_some_iff.1 h.x10).1).trans h.x10, (hb.block _ h.x11.lt).trans h.x11, h.o9, h.o10, h.o11, h.l9, h.l10, h.l11, h.n1, h.n2, h.n3⟩
theorem Gs.grown {W' : World} (h : Gs w b sv0 n X9 X10 X11 sv M k y pu W) {row : Option Nat} (hg : W.grownBy W' row) (hr : ∀ r, row = some r → w.heap.size ≤ r ∧ ∃ o : Obj, W.heap[r]? = some o ∧ o.isCells = false) : Gs w b sv0 n X9 X10 X11 sv M k y pu W' := by
  have hn : ∀ B, B < w.heap.size → some B ≠ row := fun B hB e => by have := (hr B e.symm).1; omega
  refine ⟨hb_grown h.hb hg fun r e => ?_, h.hh, h.ml, h.loc, h.keep.trans (q := fun i => i < w.heap.size) (Keep.of_grown hg fun i _ hi => hn i hi) fun i hi _ => hi, h.x9.kept hg (hn _ h.l9), (hg.block _ (Array.getElem?_eq_some_iff.1 h.x10).1 (hn _ h.l10)).trans h.x10, h.x11.kept hg (hn _ h.l11), h.o9, h.o10, h.o11, h.l9, h.l10, h.l11, h.n1, h.n2, h.n3⟩
  obtain ⟨_, o, ho, hc⟩ := hr r e
  obtain ⟨h1, h2⟩ := h.hb.offk ho hc
  exact ⟨h1, h2⟩
theorem Gs.turn {W' : World} {L2 : List It} (h : Gs w b sv0 n X9 X10 X11 sv M k y pu W) (ht : Turn W b sv L2 W') (hl : L2.length ≤ n) : ∃ sv' M', Gs w b sv0 n X9 X10 X11 sv' M' k y pu W' ∧ M'.Perm L2 := by
  obtain ⟨sv2, M2, hb2, hp2, hh2, hl2, hk2⟩ := ht
  refine ⟨sv2, M2, ⟨hb2, hh2, by rw [hp2.length_eq]; exact hl, h.loc.trans h.keep.size hl2, h.keep.trans (q := Off b sv) hk2 (fun i hi hp => h.loc.off hi hp.1),
    (hk2.block _ h.x9.lt (h.loc.off h.l9 h.o9)).trans h.x9, (hk2.block _ (Array.getElem?_eq_some_iff.1 h.x10).1 (h.loc.off h.l10 h.o10)).trans h.x10, (hk2.block _ h.x11.lt (h.loc.off h.l11 h.o11)).trans h.x11, h.o9, h.o10, h.o11, h.l9, h.l10, h.l11, h.n1, h.n2, h.n3⟩, hp2⟩
theorem hb_set {W : World} {b : Nat} {sv : Value} {M : List It} (h : Hb W b sv M) {X : Nat} (hX : Off b sv X) (o : Nat) (u : Value) : Hb (W.setCell ⟨X, o, none⟩ u) b sv M :=
  h.keep (p := fun k => k ≠ X) (Keep.setCell (Keep.refl _ _) _ _ fun k _ hk => hk) fun k _ hk e => by
    subst e
    rcases hk with rfl | hk
    · exact hX.1 rfl
    · exact hX.2 hk
theorem block_set {W : World} {X B : Nat} {o : Obj} (h : W.heap[B]? = some o) (hne : B ≠ X) (i : Nat) (u : Value) : (W.setCell ⟨X, i, none⟩ u).heap[B]? = some o := (Below.heap_setCell _ _ _ _ hne).trans h
theorem Gs.set9 (h : Gs w b sv0 n X9 X10 X11 sv M k y pu W) (k' : Nat) (u : Value) (hu : u = .int .i64 k') : Gs w b sv0 n X9 X10 X11 sv M k' y pu (W.setCell ⟨X9, 0, none⟩ u) := by
  subst hu
  exact ⟨hb_set h.hb (h.loc.off h.l9 h.o9) _ _, h.hh, h.ml, h.loc, Keep.setCell h.keep _ _ (fun i _ hp => hp.2.1), h.x9.set _, block_set h.x10 (fun e => h.n1 e.symm) _ _, h.x11.other (fun e => h.n2 e.symm) _, h.o9, h.o10, h.o11, h.l9, h.l10, h.l11, h.n1, h.n2, h.n3⟩
theorem Gs.set11 (h : Gs w b sv0 n X9 X10 X11 sv M k y pu W) (pu' : Bool) : Gs w b sv0 n X9 X10 X11 sv M k y pu' (W.setCell ⟨X11, 0, none⟩ (.bool pu')) :=
  ⟨hb_set h.hb (h.loc.off h.l11 h.o11) _ _, h.hh, h.ml, h.loc, Keep.setCell h.keep _ _ (fun i _ hp => hp.2.2.2), h.x9.other h.n2 _, block_set h.x10 h.n3 _ _, h.x11.set _, h.o9, h.o10, h.o11, h.l9, h.l10, h.l11, h.n1, h.n2, h.n3⟩
theorem Gs.set10 (h : Gs w b sv0 n X9 X10 X11 sv M k y pu W) (y' : It) : Gs w b sv0 n X9 X10 X11 sv M k y' pu ((W.setCell ⟨X10, 0, none⟩ (.int .i64 y'.1)).setCell ⟨X10, 1, none⟩ (.int .i64 y'.2)) := by
  have ho := h.loc.off h.l10 h.o10
  refine ⟨hb_set (hb_set h.hb ho _ _) ho _ _, h.hh, h.ml, h.loc, Keep.setCell (Keep.setCell h.keep _ _ (fun i _ hp => hp.2.2.1)) _ _ (fun i _ hp => hp.2.2.1), block_set (block_set h.x9 h.n1 _ _) h.n1 _ _, ?_, block_set (block_set h.x11 (fun e => h.n3 e.symm) _ _) (fun e => h.n3 e.symm) _ _, h.o9, h.o10, h.o11, h.l9, h.l10, h.l11, h.n1, h.n2, h.n3⟩
  simp [World.setCell, Array.getElem?_modify, h.x10]
/-- what HeapGoes lays first: what it was given, the room of its result -/
structure Cst (s : Nat) (v : Value) (key : Int) (more : It) (l : List It) (r : Bool) (W : World) : Prop where
  c0 : Boxed W s 22 v
  c1 : Boxed W (s + 1) 3 (.int .i64 key)
  c2 : W.heap[s + 1 + 1]? = some (.cells #[.int .i64 more.1, .int .i64 more.2] 40 (0, 0))
  c3 : Boxed W (s + 1 + 1 + 1) 4 (.bool r)
  pr : PR W v l
  lo : 0 < l.length → ∀ g, v.ownBlock = some g → g < s
  sz : s + 1 + 1 + 1 + 1 ≤ W.heap.size
theorem Cst.keep {s : Nat} {v : Value} {key : Int} {more : It} {l : List It} {r : Bool} {W W' : World} (h : Cst s v key more l r W) {p : Nat → Prop} (hk : Keep p W W') (hp : ∀ i, i < s + 1 + 1 + 1 + 1 → p i) : Cst s v key more l r W' :=
  ⟨(hk.block _ h.c0.lt (hp _ (by omega))).trans h.c0, (hk.block _ h.c1.lt (hp _ (by omega))).trans h.c1, (hk.block _ (Array.getElem?_eq_some_iff.1 h.c2).1 (hp _ (by omega))).trans h.c2, (hk.block _ h.c3.lt (hp _ (by omega))).trans h.c3,
    h.pr.keep hk (fun h0 g hg _ => hp g (by have := h.lo h0 g hg; omega)), h.lo, Nat.le_trans h.sz hk.size⟩
theorem Cst.below {s : Nat} {v : Value} {key : Int} {more : It} {l : List It} {r : Bool} {W W' : World} (h : Cst s v key more l r W) (hb : Below W.heap.size W W') : Cst s v key more l r W' := h.keep (p := fun _ => True) (Keep.of_below hb) fun _ _ => trivial
theorem cst_start {w : World} {v : Value} {l : List It} (h : PR w v l) (hlt : 0 < l.length → ∀ g, v.ownBlock = some g → g < w.heap.size) (key : Int) (more : It) :
    Cst w.heap.size v key more l false ((((w.alloc (.cells #[v] 22)).alloc (.cells #[.int .i64 key] 3)).alloc (.cells #[.int .i64 more.1, .int .i64 more.2] 40)).alloc (.cells #[.bool false] 4)) ∧
    Below w.heap.size w ((((w.alloc (.cells #[v] 22)).alloc (.cells #[.int .i64 key] 3)).alloc (.cells #[.int .i64 more.1, .int .i64 more.2] 40)).alloc (.cells #[.bool false] 4)) := by
  have e1 : (w.alloc (.cells #[v] 22)).heap.size = w.heap.size + 1 := by simp
  have e2 : ((w.alloc (.cells #[v] 22)).alloc (.cells #[.int .i64 key] 3)).heap.size = w.heap.size + 1 + 1 := by simp
  have e3 : (((w.alloc (.cells #[v] 22)).alloc (.cells #[.int .i64 key] 3)).alloc (.cells #[.int .i64 more.1, .int .i64 more.2] 40)).heap.size = w.heap.size + 1 + 1 + 1 := by simp
  have b0 := Boxed.new w 22 v
  have b1 := Boxed.new (w.alloc (.cells #[v] 22)) 3 (.int .i64 key)
  have b2 := heap_alloc_new ((w.alloc (.cells #[v] 22)).alloc (.cells #[.int .i64 key] 3)) (.cells #[.int .i64 more.1, .int .i64 more.2] 40)
  have b3 := Boxed.new (((w.alloc (.cells #[v] 22)).alloc (.cells #[.int .i64 key] 3)).alloc (.cells #[.int .i64 more.1, .int .i64 more.2] 40)) 4 (.bool false)
  rw [e1] at b1
  rw [e2] at b2
  rw [e3] at b3
  have hB : Below w.heap.size w ((((w.alloc (.cells #[v] 22)).alloc (.cells #[.int .i64 key] 3)).alloc (.cells #[.int .i64 more.1, .int .i64 more.2] 40)).alloc (.cells #[.bool false] 4)) :=
    (((((Below.refl _ w).alloc (Nat.le_refl _) _).alloc (by omega) _).alloc (by omega) _).alloc (by omega) _)
  exact ⟨⟨((b0.alloc _).alloc _).alloc _, (b1.alloc _).alloc _, (Below.heap_alloc _ _ _ (by omega)).trans b2, b3, h.below hB, hlt, by simp⟩, hB⟩

theorem gs_start {w : World} {b : Nat} {sv : Value} {M : List It} (h : Hb w b sv M) (hh : Heap M) (key : Int) {n : Nat} (hn : M.length ≤ n) :
    ∃ W, (((((w.alloc (.cells #[.int .i64 0] 3)).alloc (.cells #[.int .i64 0, .int .i64 0] 40)).alloc (.cells #[.bool false] 4)).alloc (.cells #[.pointer (some ⟨b, 0, none⟩)] 26)).alloc (.cells #[.int .i64 key] 3)) = W ∧
      Gs W b sv n w.heap.size (w.heap.size + 1) (w.heap.size + 1 + 1) sv M 0 (0, 0) false W ∧ Boxed W (w.heap.size + 1 + 1 + 1) 26 (.pointer (some ⟨b, 0, none⟩)) ∧ Boxed W (w.heap.size + 1 + 1 + 1 + 1) 3 (.int .i64 key) ∧ Below w.heap.size w W ∧ W.heap.size = w.heap.size + 1 + 1 + 1 + 1 + 1 := by
  have e1 : (w.alloc (.cells #[.int .i64 0] 3)).heap.size = w.heap.size + 1 := by simp
  have e2 : ((w.alloc (.cells #[.int .i64 0] 3)).alloc (.cells #[.int .i64 0, .int .i64 0] 40)).heap.size = w.heap.size + 1 + 1 := by simp
  have e3 : (((w.alloc (.cells #[.int .i64 0] 3)).alloc (.cells #[.int .i64 0, .int .i64 0] 40)).alloc (.cells #[.bool false] 4)).heap.size = w.heap.size + 1 + 1 + 1 := by simp
  have e4 : ((((w.alloc (.cells #[.int .i64 0] 3)).alloc (.cells #[.int .i64 0, .int .i64 0] 40)).alloc (.cells #[.bool false] 4)).alloc (.cells #[.pointer (some ⟨b, 0, none⟩)] 26)).heap.size = w.heap.size + 1 + 1 + 1 + 1 := by simp
  have b0 := Boxed.new w 3 (.int .i64 0)
  have b1 := heap_alloc_new (w.alloc (.cells #[.int .i64 0] 3)) (.cells #[.int .i64 0, .int .i64 0] 40)
  have b2 := Boxed.new ((w.alloc (.cells #[.int .i64 0] 3)).alloc (.cells #[.int .i64 0, .int .i64 0] 40)) 4 (.bool false)
  have b3 := Boxed.new (((w.alloc (.cells #[.int .i64 0] 3)).alloc (.cells #[.int .i64 0, .int .i64 0] 40)).alloc (.cells #[.bool false] 4)) 26 (.pointer (some ⟨b, 0, none⟩))
  have b4 := Boxed.new ((((w.alloc (.cells #[.int .i64 0] 3)).alloc (.cells #[.int .i64 0, .int .i64 0] 40)).alloc (.cells #[.bool false] 4)).alloc (.cells #[.pointer (some ⟨b, 0, none⟩)] 26)) 3 (.int .i64 key)
  rw [e1] at b1
  rw [e2] at b2
  rw [e3] at b3
  rw [e4] at b4
  have hB : Below w.heap.size w (((((w.alloc (.cells #[.int .i64 0] 3)).alloc (.cells #[.int .i64 0, .int .i64 0] 40)).alloc (.cells #[.bool false] 4)).alloc (.cells #[.pointer (some ⟨b, 0, none⟩)] 26)).alloc (.cells #[.int .i64 key] 3)) :=
    ((((((Below.refl _ w).alloc (Nat.le_refl _) _).alloc (by omega) _).alloc (by omega) _).alloc (by omega) _).alloc (by omega) _)
  refine ⟨_, rfl, ⟨h.below hB, hh, hn, fun g hg => .inl hg, Keep.refl _ _, (((b0.alloc _).alloc _).alloc _).alloc _, ?_, (b2.alloc _).alloc _, h.off (Nat.le_refl _), h.off (by omega), h.off (by omega), by rw [World.size_alloc, e4]; omega, by rw [World.size_alloc, e4]; omega, by rw [World.size_alloc, e4]; omega, by omega, by omega, by omega⟩, b3.alloc _, b4, hB, by simp⟩
  exact (Below.heap_alloc _ _ _ (by omega)).trans ((Below.heap_alloc _ _ _ (by omega)).trans ((Below.heap_alloc _ _ _ (by omega)).trans b1))

theorem Gs.others {W' : World} (hb : Hb W b sv M) {L2 : List It} (ht : Turn W b sv L2 W') : KeepsOthers W W' := ht.others hb
end Go.Proofs.Ytabbgananngjlaa
