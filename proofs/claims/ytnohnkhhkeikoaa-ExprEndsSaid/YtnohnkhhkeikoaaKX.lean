/- The kit's expressions: marks; rows that are lent. -/
import Derived.Test.YtnohnkhhkeikoaaHB
import Derived.Test.YtnohnkhhkeikoaaRA
import Derived.Test.YtnohnkhhkeikoaaRD
import Derived.IntWalk
import Derived.Maps.AppendAt
namespace Go.Proofs.Ytnohnkhhkeikoaa
open Go.ChangeShapes Go.WideShapes Go.ChangeAt Go.RowKit
set_option linter.unusedVariables false
set_option linter.unusedSimpArgs false

attribute [local go_sem] Oper.semAt_some

theorem mark64_any (i : Nat) (hi : i ≤ 1000) (w : World) : Calls Try.prog 64 #[.int .i64 1, .int .i64 i] w fun e w' => e = .returned (.int .i64 (8000024 + i)) ∧ w = w' := by
  go_enter Try.func64, Try.ntmps64
  go_wp2_with fail
  go_ret
  exact ⟨rfl, rfl⟩

/-- the mark of a place in a row of expressions -/
def mX (i : Nat) : X := .mk (8000024 + i) ⟨#[]⟩ []
set_option maxHeartbeats 2000000 in
theorem markExpr_any (i : Nat) (hi : i ≤ 1000) (w : World) : Calls Try.prog 47 #[.int .i64 1, .int .i64 i] w fun e w' => e = .returned (.agg #[.int .i64 (8000024 + i), .string ⟨#[]⟩, .slice none 0 0]) ∧ Below w.heap.size w w' := by
  have HG := Lib.hid (show Below w.heap.size w (w.alloc (.cells #[.int .i64 (8000024 + i), .string ⟨#[]⟩, .slice none 0 0] 25)) from (Below.refl _ w).alloc (Nat.le_refl _) _)
  go_enter Try.func47, Try.ntmps47
  go_wp2_with (go_at_call 64; refine (mark64_any i hi _).mono ?_; rintro e w' ⟨hx, hw⟩; subst hx; subst hw)
  have hn := heap_alloc_new w (.cells #[.int .i64 (8000024 + i), .string ⟨#[]⟩, .slice none 0 0] 25)
  have d0 := cell_of_row _ _ 0 _ 25 (0, 0) hn
  have d1 := cell_of_row _ _ 1 _ 25 (0, 0) hn
  have d2 := cell_of_row _ _ 2 _ 25 (0, 0) hn
  exact bodyPost_ret (v := .agg #[.int .i64 (8000024 + i), .string ⟨#[]⟩, .slice none 0 0]) (by simp [results, Try.results47, go_sem, d0, d1, d2]) rfl ⟨rfl, HG.out⟩

/-- an expression and its kids' value: three cells each -/
def flatP (ps : List (X × Value)) : List Value := ps.flatMap fun p => [.int .i64 p.1.kind, .string p.1.lab, p.2]
theorem flatP_nil : flatP [] = [] := rfl
theorem flatP_cons (p : X × Value) (ps : List (X × Value)) : flatP (p :: ps) = .int .i64 p.1.kind :: .string p.1.lab :: p.2 :: flatP ps := rfl
theorem flatP_app (ps qs : List (X × Value)) : flatP (ps ++ qs) = flatP ps ++ flatP qs := by unfold flatP; rw [List.flatMap_append]
theorem flatP_len : ∀ ps : List (X × Value), (flatP ps).length = ps.length * 3
  | [] => rfl
  | p :: ps => by rw [flatP_cons]; simp [flatP_len ps]; omega
theorem flatP_at : ∀ (ps : List (X × Value)) (i : Nat) (h : i < ps.length), (flatP ps)[i * 3]? = some (.int .i64 ps[i].1.kind) ∧ (flatP ps)[i * 3 + 1]? = some (.string ps[i].1.lab) ∧ (flatP ps)[i * 3 + 2]? = some ps[i].2
  | p :: ps, 0, h => ⟨rfl, rfl, rfl⟩
  | p :: ps, k + 1, h => by
    have := flatP_at ps k (by simp at h; omega)
    rw [flatP_cons, show (k + 1) * 3 = k * 3 + 1 + 1 + 1 by omega]
    simp only [show ∀ a, k * 3 + 1 + 1 + 1 + a = (k * 3 + a) + 1 + 1 + 1 by omega, List.getElem?_cons_succ]
    exact this
/-- the marks behind a row that is lent -/
def mkps : List (X × Value) := (List.range 12).map fun i : Nat => (mX i, .slice none 0 0)
theorem mkps_len : mkps.length = 12 := by simp [mkps]
theorem mkps_get (k : Nat) (h : k < mkps.length) : mkps[k] = (mX k, .slice none 0 0) := by simp [mkps]

/-- a row that is lent: a copy with marks behind it, the rows within it likewise; all lies in blocks of the kind q -/
inductive LR (q : Nat → Prop) (w : World) : Value → List X → Prop where
  | mk (g c : Nat) (ps : List (X × Value)) (hq : q g) (hc : ps.length + 12 ≤ c) (hcell : ∀ j u, (flatP (ps ++ mkps))[j]? = some u → w.cell? ⟨g, j, none⟩ = some u) (hk : ∀ p, p ∈ ps → LR q w p.2 p.1.kids) : LR q w (.slice (some ⟨g, 0, none⟩) ps.length c) (ps.map Prod.fst)
theorem LR.keep {q q' : Nat → Prop} {w w' : World} {v : Value} {xs : List X} (h : LR q w v xs) (hw : ∀ b, q b → w'.heap[b]? = w.heap[b]?) (hq : ∀ b, q b → q' b) : LR q' w' v xs := by
  induction h with
  | mk g c ps hg hc hcell hk ih => exact .mk g c ps (hq g hg) hc (fun j u hu => (World.cell?_of_block (a := ⟨g, j, none⟩) (hw g hg)).trans (hcell j u hu)) ih
theorem at_zero (g : Nat) (j : Nat) : (⟨g, 0, none⟩ : Addr).add j = ⟨g, j, none⟩ := by
  unfold Addr.add
  split
  · next h => subst h; rfl
  · simp
theorem LR.xr {q : Nat → Prop} {w : World} {v : Value} {xs : List X} (h : LR q w v xs) {B : Nat} (hB : ∀ b, q b → b < B) : XR B w v xs := by
  induction h with
  | mk g c ps hg hc hcell hk ih =>
    have hl : (ps.map Prod.fst).length = ps.length := by simp
    have hat : ∀ i (h : i < ps.length), w.cell? ⟨g, i * 3, none⟩ = some (.int .i64 ps[i].1.kind) ∧ w.cell? ⟨g, i * 3 + 1, none⟩ = some (.string ps[i].1.lab) ∧ w.cell? ⟨g, i * 3 + 2, none⟩ = some ps[i].2 := fun i h => by
      obtain ⟨h0, h1, h2⟩ := flatP_at (ps ++ mkps) i (by rw [List.length_append]; omega)
      rw [List.getElem_append_left h] at h0 h1 h2
      exact ⟨hcell _ _ h0, hcell _ _ h1, hcell _ _ h2⟩
    have := XR.mk (B := B) (w := w) (some ⟨g, 0, none⟩) c (ps.map Prod.fst) ⟨g, 0, none⟩ (fun i => ((ps[i]?).map Prod.snd).getD undef) (by omega) (fun _ => ⟨rfl, hB g hg⟩)
      (fun i h => by rw [at_zero, List.getElem_map]; exact (hat i (by omega)).1) (fun i h => by rw [at_zero, List.getElem_map]; exact (hat i (by omega)).2.1)
      (fun i h => by rw [at_zero, List.getElem?_eq_getElem (by omega)]; exact (hat i (by omega)).2.2) (fun i h => by
        rw [List.getElem?_eq_getElem (by omega), List.getElem_map]
        exact ih _ (List.getElem_mem _))
    rwa [hl] at this

theorem parts25 : (Try.prog.info? 25).map (fun i => (i.zero, i.size, i.bytes)) = some (some (.agg #[.int .i64 0, .string ⟨#[]⟩, .slice none 0 0]), 3, 48) := by kernel_rfl
theorem own_succ2 {w : World} {base e size k : Nat} {v : Value} {xs : List Value} (h : w.ownsRow base e size v (k + 1) xs) : ∃ g cap, v = .slice (some ⟨g, 0, none⟩) (k + 1) cap ∧ k + 1 ≤ cap ∧ cap ≤ maxLen ∧ base ≤ g ∧ g < w.heap.size := by
  rcases h.2 with ⟨_, h0⟩ | ⟨g, cap, cur, rfl, hb, hg, h1, h2, _⟩
  · omega
  · exact ⟨g, cap, rfl, h1, h2, hb, (Array.getElem?_eq_some_iff.1 hg).1⟩

/-- what is told of a row that is lent -/
def L32 (w : World) (xs : List X) (e : Ending) (w' : World) : Prop := ∃ v', e = .returned v' ∧ LR (fun b => w.heap.size ≤ b ∧ b < w'.heap.size) w' v' xs ∧ Below w.heap.size w w'
def L9 (x : X) : Prop := ∀ (N : Nat) (w : World) (v : Value), XV N w v x → N ≤ w.heap.size → Calls Try.prog 9 #[v] w fun e w' => ∃ kv, e = .returned (.agg #[.int .i64 x.kind, .string x.lab, kv]) ∧ LR (fun b => w.heap.size ≤ b ∧ b < w'.heap.size) w' kv x.kids ∧ Below w.heap.size w w'

/-- the kids that are lent so far -/
structure LK (W : World) (base : Nat) (v : Value) (ps : List (X × Value)) : Prop where
  hk : ∀ p, p ∈ ps → LR (fun b => base ≤ b ∧ b < W.heap.size ∧ v.ownBlock ≠ some b) W p.2 p.1.kids
/-- the row grows: what the kids hold stays -/
theorem LK.grown {W W1 W' : World} {base : Nat} {v v' : Value} {ps : List (X × Value)} (h : LK W base v ps) (h1 : Below W.heap.size W W1) (hg : W1.grownBy W' v.ownBlock) (hat : v'.ownBlock = v.ownBlock ∨ v'.ownBlock = some W1.heap.size) : LK W' base v' ps :=
  ⟨fun p hp => (h.hk p hp).keep (fun b hb => (hg.block b (Nat.lt_of_lt_of_le hb.2.1 h1.size) (fun e => hb.2.2 e.symm)).trans (h1.block b hb.2.1)) (fun b hb => ⟨hb.1, Nat.lt_of_lt_of_le hb.2.1 (Nat.le_trans h1.size hg.size), fun e => by
    rcases hat with h2 | h2
    · rw [h2] at e; exact hb.2.2 e
    · rw [h2] at e
      injection e with e
      have := h1.size
      omega⟩)⟩
end Go.Proofs.Ytnohnkhhkeikoaa
