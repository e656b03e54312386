/- Small helpers of the laws' walks (the same as at the head of MA, for texts that need no more of it). -/
import Derived.Test.YtnohnkhhkeikoaaWB
namespace Go.Proofs.Ytnohnkhhkeikoaa
open Go.ChangeShapes Go.WideShapes Go.ChangeAt Go.RowKit
set_option linter.unusedVariables false

attribute [local go_sem] Oper.semAt_some

theorem SR.take {B : Nat} {w : World} {A : Option Addr} {n c : Nat} {l : Wd} (h : SR B w (.slice A n c) l) {k : Nat} (hk : k ≤ l.length) : SR B w (.slice A k c) (l.take k) := by
  obtain ⟨A', c', e, h⟩ := h
  injection e with e1 e2 e3
  subst e1 e3
  refine ⟨A, c, by rw [List.length_take, Nat.min_eq_left hk], fun h0 => ?_⟩
  rw [List.length_take] at h0
  obtain ⟨ad, rfl, hb, hc⟩ := h (by omega)
  exact ⟨ad, rfl, hb, fun i hi => by rw [List.length_take] at hi; rw [hc i (by omega), List.getElem_take]⟩
def dropA (A : Option Addr) (c k : Nat) : Option Addr := if c = k then A else A.map fun ad => ad.add k
theorem SR.drop {B : Nat} {w : World} {A : Option Addr} {n c : Nat} {l : Wd} (h : SR B w (.slice A n c) l) (hnc : n ≤ c) {k : Nat} (hk : k ≤ l.length) : SR B w (.slice (dropA A c k) (n - k : Nat) (c - k : Nat)) (l.drop k) := by
  obtain ⟨A', c', e, h⟩ := h
  injection e with e1 e2 e3
  subst e1 e3
  refine ⟨_, c - k, by rw [List.length_drop, e2], fun h0 => ?_⟩
  rw [List.length_drop] at h0
  obtain ⟨ad, rfl, hb, hc⟩ := h (by omega)
  unfold dropA
  rw [if_neg (by omega)]
  exact ⟨ad.add k, rfl, by rw [block_add]; exact hb, fun i hi => by rw [List.length_drop] at hi; rw [add_of_add, hc (k + i) (by omega), List.getElem_drop]⟩
theorem lit_below {W W' : World} {o : Obj} (h : Gr (W.alloc o) W') : Below (W.heap.size + 1) (W.alloc o) W' := by
  have := h.below
  rwa [World.size_alloc] at this
theorem lit_step {W1 W W' : World} {o : Obj} (hb : Below W1.heap.size W1 W) (h : Gr (W.alloc o) W') : Below W1.heap.size W1 W' :=
  (hb.alloc hb.size o).trans (h.below.mono (by have := hb.size; rw [World.size_alloc]; omega))
theorem calls_base {f : FuncId} {args : Array Value} {W0 W : World} {r : Ending} (h : Calls Try.prog f args W fun e w' => e = r ∧ Below W.heap.size W w') (hb : Below W0.heap.size W0 W) :
    Calls Try.prog f args W fun e w' => e = r ∧ Below W0.heap.size W0 w' :=
  h.mono (by rintro e w1 ⟨rfl, h1⟩; exact ⟨rfl, hb.trans (h1.mono hb.size)⟩)
theorem XV.of1 {s0 : Nat} {W0 W W' : World} {k ka : Int} {la : ByteArray} {kva : Value} {a : X} (h : XV s0 W0 (.agg #[.int .i64 ka, .string la, kva]) a) (hb : Below s0 W0 W) (hs : s0 ≤ W.heap.size)
    (h2 : Below (W.heap.size + 1) (W.alloc (.cells #[.int .i64 ka, .string la, kva] 25)) W') : XV W'.heap.size W' (.agg #[.int .i64 k, .string ⟨#[]⟩, .slice (some ⟨W.heap.size, 0, none⟩) 1 1]) (ofX k [a]) := by
  obtain ⟨kv, e, hr⟩ := h
  injection e with e
  injection e with e
  injection e with e1 e
  injection e with e2 e
  injection e with e3 e
  injection e1 with _ e1
  injection e2 with e2
  subst e1 e2 e3
  have hz : W.heap.size + 1 ≤ W'.heap.size := by have := h2.size; simpa using this
  refine ⟨_, rfl, XR.one (g := W.heap.size) ((h2.block _ (by omega)).trans (at_push _ _)) (by omega) rfl rfl ?_ 1 (Nat.le_refl _)⟩
  refine (((hr.bel hb).bel ((Below.refl _ W).alloc hs _)).bel (h2.mono (by omega))).mono (by omega)
theorem XV.of2 {s0 : Nat} {W0 W W' : World} {k ka kb : Int} {la lb : ByteArray} {kva kvb : Value} {a b : X} (h : XV s0 W0 (.agg #[.int .i64 ka, .string la, kva]) a) (h' : XV s0 W0 (.agg #[.int .i64 kb, .string lb, kvb]) b) (hb : Below s0 W0 W) (hs : s0 ≤ W.heap.size)
    (h2 : Below (W.heap.size + 1) (W.alloc (.cells #[.int .i64 ka, .string la, kva, .int .i64 kb, .string lb, kvb] 25)) W') : XV W'.heap.size W' (.agg #[.int .i64 k, .string ⟨#[]⟩, .slice (some ⟨W.heap.size, 0, none⟩) 2 2]) (ofX k [a, b]) := by
  obtain ⟨kv, e, hr⟩ := h
  injection e with e
  injection e with e
  injection e with e1 e
  injection e with e2 e
  injection e with e3 e
  injection e1 with _ e1
  injection e2 with e2
  subst e1 e2 e3
  obtain ⟨kv', e, hr'⟩ := h'
  injection e with e
  injection e with e
  injection e with e1 e
  injection e with e2 e
  injection e with e3 e
  injection e1 with _ e1
  injection e2 with e2
  subst e1 e2 e3
  have hz : W.heap.size + 1 ≤ W'.heap.size := by have := h2.size; simpa using this
  refine ⟨_, rfl, XR.two (g := W.heap.size) ((h2.block _ (by omega)).trans (at_push _ _)) (by omega) rfl rfl ?_ rfl rfl ?_ 2 (Nat.le_refl _)⟩
  · exact (((hr.bel hb).bel ((Below.refl _ W).alloc hs _)).bel (h2.mono (by omega))).mono (by omega)
  · exact (((hr'.bel hb).bel ((Below.refl _ W).alloc hs _)).bel (h2.mono (by omega))).mono (by omega)

end Go.Proofs.Ytnohnkhhkeikoaa
