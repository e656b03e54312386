/- The chapter's example. -/
import Derived.Test.YtnohnkhhkeikoaaU
namespace Go.Proofs.Ytnohnkhhkeikoaa
open Go.ChangeShapes Go.WideShapes Go.ChangeAt Go.RowKit
set_option linter.unusedVariables false

theorem XR.one {B g : Nat} {w : World} {k : Int} {l : ByteArray} {kv : Value} {x : X} {fr : Nat × Nat} (h : w.heap[g]? = some (.cells #[.int .i64 k, .string l, kv] 25 fr)) (hg : g < B) (hk : x.kind = k) (hl : x.lab = l) (hx : XR B w kv x.kids) (c : Nat) (hc : 1 ≤ c) : XR B w (.slice (some ⟨g, 0, none⟩) 1 c) [x] := by
  refine .mk (some ⟨g, 0, none⟩) c [x] ⟨g, 0, none⟩ (fun _ => kv) hc (fun _ => ⟨rfl, hg⟩) (fun i hi => ?_) (fun i hi => ?_) (fun i hi => ?_) (fun i hi => ?_)
  all_goals obtain rfl : i = 0 := by simpa using hi
  · simpa [Addr.add, hk] using cell_of_row _ _ 0 _ _ _ h
  · simpa [Addr.add, hl] using cell_of_row _ _ 1 _ _ _ h
  · simpa [Addr.add] using cell_of_row _ _ 2 _ _ _ h
  · exact hx
theorem XR.two {B g : Nat} {w : World} {k k' : Int} {l l' : ByteArray} {kv kv' : Value} {x x' : X} {fr : Nat × Nat} (h : w.heap[g]? = some (.cells #[.int .i64 k, .string l, kv, .int .i64 k', .string l', kv'] 25 fr)) (hg : g < B)
    (hk : x.kind = k) (hl : x.lab = l) (hx : XR B w kv x.kids) (hk' : x'.kind = k') (hl' : x'.lab = l') (hx' : XR B w kv' x'.kids) (c : Nat) (hc : 2 ≤ c) : XR B w (.slice (some ⟨g, 0, none⟩) 2 c) [x, x'] := by
  refine .mk (some ⟨g, 0, none⟩) c [x, x'] ⟨g, 0, none⟩ (fun i => if i = 0 then kv else kv') hc (fun _ => ⟨rfl, hg⟩) (fun i hi => ?_) (fun i hi => ?_) (fun i hi => ?_) (fun i hi => ?_)
  all_goals
    have h01 : i = 0 ∨ i = 1 := by simp at hi; omega
    rcases h01 with rfl | rfl
  · simpa [Addr.add, hk] using cell_of_row _ _ 0 _ _ _ h
  · simpa [Addr.add, hk'] using cell_of_row _ _ 3 _ _ _ h
  · simpa [Addr.add, hl] using cell_of_row _ _ 1 _ _ _ h
  · simpa [Addr.add, hl'] using cell_of_row _ _ 4 _ _ _ h
  · simpa [Addr.add] using cell_of_row _ _ 2 _ _ _ h
  · simpa [Addr.add] using cell_of_row _ _ 5 _ _ _ h
  · exact hx
  · exact hx'
theorem SR.lit (w : World) (l : List ByteArray) (t : TypeId) : SR (w.heap.size + 1) (w.alloc (.cells (l.map Value.string).toArray t)) (.slice (some ⟨w.heap.size, 0, none⟩) l.length l.length) l := by
  refine ⟨_, _, rfl, fun _ => ⟨_, rfl, by show w.heap.size < _; omega, fun k hk => ?_⟩⟩
  exact lit_cells w _ rfl (l.map Value.string) t k _ (by simp [hk])

def labX (s : ByteArray) : X := .mk 1 s []
def x0 : X := .mk 4 ⟨#[]⟩ [.mk 2 ⟨#[]⟩ [labX ⟨#[97]⟩, labX ⟨#[98]⟩]]
theorem x0_sz : x0.sz = 4 := by kernel_rfl
theorem x0_right : x0.right = true := by kernel_rfl
theorem x0_emp : x0.emp = true := by kernel_rfl
theorem x0_t2 : takesB x0 [⟨#[97]⟩, ⟨#[98]⟩] = true := by kernel_rfl
theorem x0_t4 : takesB x0 [⟨#[97]⟩, ⟨#[98]⟩, ⟨#[97]⟩, ⟨#[98]⟩] = true := by kernel_rfl
theorem x0_t1 : takesB x0 [⟨#[97]⟩] = false := by kernel_rfl
theorem x0_t3 : takesB x0 [⟨#[97]⟩, ⟨#[98]⟩, ⟨#[97]⟩] = false := by kernel_rfl
theorem x0_lit : x0.lit := by
  intro p hp
  have : x0.parts = [x0, .mk 2 ⟨#[]⟩ [labX ⟨#[97]⟩, labX ⟨#[98]⟩], labX ⟨#[97]⟩, labX ⟨#[98]⟩] := by kernel_rfl
  rw [this] at hp
  simp at hp
  rcases hp with rfl | rfl | rfl | rfl <;> (simp [x0, labX, X.lab, maxLen]; try decide)

def v0 (g : Nat) : Value := .agg #[.int .i64 4, .string ⟨#[]⟩, .slice (some ⟨g, 0, none⟩) 1 1]

theorem at_push (w : World) (o : Obj) : (w.alloc o).heap[w.heap.size]? = some o := by
  show (w.heap.push o)[w.heap.size]? = _
  simp
theorem lt_push (w : World) (o : Obj) : w.heap.size < (w.alloc o).heap.size := by
  show _ < (w.heap.push o).size
  simp
theorem box3 {W : World} {g : Nat} {a b c : Value} {t : TypeId} {fr : Nat × Nat} (h : W.heap[g]? = some (.cells #[a, b, c] t fr)) :
    W.cell? ⟨g, 0, none⟩ = some a ∧ W.cell? ⟨g, 1, none⟩ = some b ∧ W.cell? ⟨g, 2, none⟩ = some c :=
  ⟨cell_of_row _ _ 0 _ _ _ h, cell_of_row _ _ 1 _ _ _ h, cell_of_row _ _ 2 _ _ _ h⟩
theorem takes_lit {N : Nat} {w W : World} {v : Value} {x : X} (hx : XV N w v x) (hW : Below N w W) (hN : N ≤ W.heap.size) (hsz : x.sz ≤ 100000) (hl : x.lit) (l : List ByteArray) (hlen : l.length ≤ 100000) (t : TypeId) :
    Calls Try.prog 20 #[v, .slice (some ⟨W.heap.size, 0, none⟩) l.length l.length] (W.alloc (.cells (l.map Value.string).toArray t)) fun e w' => e = .returned (.bool (takesB x l)) ∧ Below W.heap.size W w' := by
  have hb : Below W.heap.size W (W.alloc (.cells (l.map Value.string).toArray t)) := (Below.refl _ W).alloc (Nat.le_refl _) _
  refine (takes20_any ((hx.bel hW).bel (hb.mono hN)) (Nat.le_trans hN hb.size) hsz hl (SR.lit W l t) (by show _ ≤ (W.heap.push _).size; rw [Array.size_push]; exact Nat.le_refl _) hlen).mono ?_
  rintro e w1 ⟨rfl, h1⟩
  exact ⟨rfl, hb.trans (h1.mono hb.size)⟩

set_option maxRecDepth 100000 in
set_option maxHeartbeats 1000000 in
theorem awake_any (w : World) : Calls Try.prog 8 #[] w fun e w' => e = .returned (.bool true) ∧ Below w.heap.size w w' := by
  go_enter Try.func8, Try.ntmps8
  go_upto_region 2 with (first
    | (go_at_call 28; refine (label_any _ _).mono ?_; rintro e w1 ⟨rfl, h1⟩)
    | (go_at_call 29; refine (of_any _ _ _ _ _).mono ?_; rintro e w3 ⟨rfl, h3⟩))
  rename_i Q wa0 ha0 wa ha K hK
  have hab : Gr w w1 := ha0.trans h1
  obtain ⟨W, hW⟩ : ∃ W, W = w3.alloc (.cells #[.int .i64 4, .string ⟨#[]⟩, .slice (some ⟨wa.heap.size, 0, none⟩) 1 1] 25) := ⟨_, rfl⟩
  have hgW : Gr w W := by rw [hW]; exact ((((hab.alloc _).trans ha).alloc _).trans h3).alloc _
  have hc0 : W.heap[w3.heap.size]? = some (.cells #[.int .i64 4, .string ⟨#[]⟩, .slice (some ⟨wa.heap.size, 0, none⟩) 1 1] 25) := by rw [hW]; exact at_push _ _
  have hs3 : w3.heap.size < W.heap.size := by rw [hW]; exact lt_push _ _
  have hg1 : Gr (w1.alloc (.cells #[.int .i64 1, .string ⟨#[97]⟩, .slice none 0 0, .int .i64 1, .string ⟨#[98]⟩, .slice none 0 0] 25)) W := by
    rw [hW]; exact ((ha.alloc _).trans h3).alloc _
  have hg2 : Gr (wa.alloc (.cells #[.int .i64 2, .string ⟨#[]⟩, .slice (some ⟨w1.heap.size, 0, none⟩) 2 2] 25)) W := by
    rw [hW]; exact h3.alloc _
  have hc1 : W.heap[w1.heap.size]? = some (.cells #[.int .i64 1, .string ⟨#[97]⟩, .slice none 0 0, .int .i64 1, .string ⟨#[98]⟩, .slice none 0 0] 25) := by
    rw [hg1.below.block _ (lt_push _ _)]; exact at_push _ _
  have hc2 : W.heap[wa.heap.size]? = some (.cells #[.int .i64 2, .string ⟨#[]⟩, .slice (some ⟨w1.heap.size, 0, none⟩) 2 2] 25) := by
    rw [hg2.below.block _ (lt_push _ _)]; exact at_push _ _
  have hl1 : w1.heap.size < W.heap.size := Nat.lt_of_lt_of_le (lt_push _ _) hg1.below.size
  have hl2 : wa.heap.size < W.heap.size := Nat.lt_of_lt_of_le (lt_push _ _) hg2.below.size
  have hx : XV W.heap.size W (v0 wa.heap.size) x0 := by
    refine ⟨_, rfl, XR.one hc2 hl2 rfl rfl ?_ 1 (Nat.le_refl _)⟩
    exact XR.two hc1 hl1 rfl rfl (XR.nil _ _ _ _) rfl rfl (XR.nil _ _ _ _) 2 (Nat.le_refl _)
  have hX := Lib.hid hx
  have HG := Lib.hid hgW
  rw [← hW]
  have hT : ∀ (U : World) (l : List ByteArray) (t : TypeId), Below W.heap.size W U → l.length ≤ 100000 → Calls Try.prog 20 #[v0 wa.heap.size, .slice (some ⟨U.heap.size, 0, none⟩) l.length l.length] (U.alloc (.cells (l.map Value.string).toArray t)) fun e w' => e = .returned (.bool (takesB x0 l)) ∧ Below W.heap.size W w' ∧ w'.heap[w3.heap.size]? = some (.cells #[.int .i64 4, .string ⟨#[]⟩, .slice (some ⟨wa.heap.size, 0, none⟩) 1 1] 25) := fun U l t hU hl =>
    (takes_lit hX.out hU hU.size (by rw [x0_sz]; omega) x0_lit l hl t).mono (by
      rintro e w1 ⟨rfl, h1⟩
      have h2 := hU.trans (h1.mono hU.size)
      exact ⟨rfl, h2, (h2.block _ hs3).trans hc0⟩)
  have HT1 := Lib.hid (fun (U : World) (a : ByteArray) (hU : Below W.heap.size W U) => (show Calls Try.prog 20 #[v0 wa.heap.size, .slice (some ⟨U.heap.size, 0, none⟩) 1 1] (U.alloc (.cells #[.string a] 9)) _ from hT U [a] 9 hU (by simp)))
  have HT2 := Lib.hid (fun (U : World) (a b : ByteArray) (hU : Below W.heap.size W U) => (show Calls Try.prog 20 #[v0 wa.heap.size, .slice (some ⟨U.heap.size, 0, none⟩) 2 2] (U.alloc (.cells #[.string a, .string b] 9)) _ from hT U [a, b] 9 hU (by simp)))
  have HT3 := Lib.hid (fun (U : World) (a b c : ByteArray) (hU : Below W.heap.size W U) => (show Calls Try.prog 20 #[v0 wa.heap.size, .slice (some ⟨U.heap.size, 0, none⟩) 3 3] (U.alloc (.cells #[.string a, .string b, .string c] 9)) _ from hT U [a, b, c] 9 hU (by simp)))
  have HT4 := Lib.hid (fun (U : World) (a b c d : ByteArray) (hU : Below W.heap.size W U) => (show Calls Try.prog 20 #[v0 wa.heap.size, .slice (some ⟨U.heap.size, 0, none⟩) 4 4] (U.alloc (.cells #[.string a, .string b, .string c, .string d] 9)) _ from hT U [a, b, c, d] 9 hU (by simp)))
  have HC := Lib.hid (And.intro hc0 hs3)
  have HE := Lib.hid ((empty18_any hX.out (Nat.le_refl _) (by rw [x0_sz]; omega) x0_lit))
  rw [x0_right, x0_emp] at HE
  have HS := Lib.hid (fun U (hU : Below W.heap.size W U) => size14_any (hX.out.bel hU) hU.size (by rw [x0_sz]; omega))
  rw [x0_sz] at HS
  clear hT hx hc1 hc2 hl1 hl2 hg1 hg2 hgW hab h3 ha h1 ha0
  clear hW
  obtain ⟨d0, d1, d2⟩ := box3 hc0
  clear hc0 hs3
  go_wp2_with (first
    | (go_at_call 18; refine HE.out.mono ?_; rintro e u1 ⟨rfl, h1⟩; have H1 := Lib.hid h1; obtain ⟨d0, d1, d2⟩ := box3 ((h1.block _ HC.out.2).trans HC.out.1); clear h1)
    | (go_at_call 20; first
      | (refine (HT3.out _ _ _ _ H4.out).mono ?_; rintro e u5 ⟨rfl, h5, hd⟩; have H5 := Lib.hid h5; obtain ⟨d0, d1, d2⟩ := box3 hd; clear h5 hd; rw [x0_t3])
      | (refine (HT1.out _ _ H3.out).mono ?_; rintro e u4 ⟨rfl, h4, hd⟩; have H4 := Lib.hid h4; obtain ⟨d0, d1, d2⟩ := box3 hd; clear h4 hd; rw [x0_t1])
      | (refine (HT4.out _ _ _ _ _ H2.out).mono ?_; rintro e u3 ⟨rfl, h3, hd⟩; have H3 := Lib.hid h3; obtain ⟨d0, d1, d2⟩ := box3 hd; clear h3 hd; rw [x0_t4])
      | (refine (HT2.out _ _ _ H1.out).mono ?_; rintro e u2 ⟨rfl, h2, hd⟩; have H2 := Lib.hid h2; obtain ⟨d0, d1, d2⟩ := box3 hd; clear h2 hd; rw [x0_t2]))
    | (go_at_call 14; refine (HS.out _ H5.out).mono ?_; rintro e u6 ⟨rfl, h6⟩; have H6 := Lib.hid (H5.out.trans (h6.mono H5.out.size)); clear h6))
  go_ret
  exact ⟨rfl, HG.out.below.trans (H6.out.mono HG.out.below.size)⟩
end Go.Proofs.Ytnohnkhhkeikoaa
