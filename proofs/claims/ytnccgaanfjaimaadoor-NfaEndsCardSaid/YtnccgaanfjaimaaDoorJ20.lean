/- Texts QT, one behind the other. -/
import Derived.Test.YtnccgaanfjaimaaDoorJ18
import Derived.Test.YtnccgaanfjaimaaDoorJ19
import Derived.IntWalk
set_option linter.unusedSimpArgs false
set_option linter.unusedVariables false
namespace Go.Proofs.YtnccgaanfjaimaaDoor
open Go.ChangeShapes Go.WideShapes Go.ChangeAt Go.RowKit
set_option linter.unusedVariables false
set_option linter.unusedSimpArgs false

attribute [local go_sem] Oper.semAt_some

theorem lit_IR {W : World} {g : Nat} {l : List Int} (h : W.heap[g]? = some (.cells (l.map (Value.int .i64)).toArray 3 (0, 0))) : IR W (.slice (some ⟨g, 0, none⟩) l.length l.length) l :=
 ⟨_, _, rfl, fun _ => ⟨⟨g, 0, none⟩, rfl, (Array.getElem?_eq_some_iff.1 h).1, fun k hk => row_cells8 h k _ (by simp [hk])⟩⟩
theorem lit_SR {W : World} {g : Nat} {l : List ByteArray} (h : W.heap[g]? = some (.cells (l.map Value.string).toArray 9 (0, 0))) : SR W.heap.size W (.slice (some ⟨g, 0, none⟩) l.length l.length) l :=
 ⟨_, _, rfl, fun _ => ⟨⟨g, 0, none⟩, rfl, (Array.getElem?_eq_some_iff.1 h).1, fun k hk => row_cells8 h k _ (by simp [hk])⟩⟩
def abcL : List ByteArray := [⟨#[97]⟩, ⟨#[98]⟩, ⟨#[99]⟩]
def abc (i : Nat) : ByteArray := abcL[i]?.getD ⟨#[]⟩
theorem abc_cell {W : World} {g r : Nat} (h : W.heap[g]? = some (.cells #[.string ⟨#[97]⟩, .string ⟨#[98]⟩, .string ⟨#[99]⟩] 9 (0, 0))) (hr : r < 3) : W.cell? ⟨g, r, none⟩ = some (.string (abc r)) := by
 rw [cell_of_row _ _ _ _ _ _ h]
 match r, hr with
 | 0, _ => rfl
 | 1, _ => rfl
 | 2, _ => rfl
/-- three rows that are made in whatever order -/
structure E5 (W0 u : World) (n : Nat) (o1 o2 o3 : Option Nat) : Prop where
 bel : Below W0.heap.size W0 u
 f1 : ∀ g, o1 = some g → u.heap[g]? = some (.cells #[.int .i64 ((n : Int) % 7), .int .i64 ((n : Int) / 7 % 7 - 1), .int .i64 ((n : Int) % 7)] 3 (0, 0))
 f2 : ∀ g, o2 = some g → u.heap[g]? = some (.cells #[.string ⟨#[97]⟩, .string ⟨#[98]⟩, .string ⟨#[99]⟩] 9 (0, 0))
 f3 : ∀ g, o3 = some g → u.heap[g]? = some (.cells #[.string ⟨#[97]⟩, .string ⟨#[98]⟩, .string ⟨#[97]⟩] 9 (0, 0))
section
variable {W0 u u' : World} {n : Nat} {o1 o2 o3 : Option Nat}
theorem E5.step (h : E5 W0 u n o1 o2 o3) (hb : Below u.heap.size u u') : E5 W0 u' n o1 o2 o3 :=
 ⟨h.bel.trans (hb.mono h.bel.size), fun g e => (hb.block _ (Array.getElem?_eq_some_iff.1 (h.f1 g e)).1).trans (h.f1 g e), fun g e => (hb.block _ (Array.getElem?_eq_some_iff.1 (h.f2 g e)).1).trans (h.f2 g e), fun g e => (hb.block _ (Array.getElem?_eq_some_iff.1 (h.f3 g e)).1).trans (h.f3 g e)⟩
theorem E5.a1 (h : E5 W0 u n none o2 o3) : E5 W0 (u.alloc (.cells #[.int .i64 ((n : Int) % 7), .int .i64 ((n : Int) / 7 % 7 - 1), .int .i64 ((n : Int) % 7)] 3)) n (some u.heap.size) o2 o3 := by
 have h1 := h.step ((Below.refl _ u).alloc (Nat.le_refl _) (.cells #[.int .i64 ((n : Int) % 7), .int .i64 ((n : Int) / 7 % 7 - 1), .int .i64 ((n : Int) % 7)] 3))
 exact ⟨h1.bel, fun g e => (by injection e with e; rw [← e]; exact at_push _ _), h1.f2, h1.f3⟩
theorem E5.a2 (h : E5 W0 u n o1 none o3) : E5 W0 (u.alloc (.cells #[.string ⟨#[97]⟩, .string ⟨#[98]⟩, .string ⟨#[99]⟩] 9)) n o1 (some u.heap.size) o3 := by
 have h1 := h.step ((Below.refl _ u).alloc (Nat.le_refl _) (.cells #[.string ⟨#[97]⟩, .string ⟨#[98]⟩, .string ⟨#[99]⟩] 9))
 exact ⟨h1.bel, h1.f1, fun g e => (by injection e with e; rw [← e]; exact at_push _ _), h1.f3⟩
theorem E5.a3 (h : E5 W0 u n o1 o2 none) : E5 W0 (u.alloc (.cells #[.string ⟨#[97]⟩, .string ⟨#[98]⟩, .string ⟨#[97]⟩] 9)) n o1 o2 (some u.heap.size) := by
 have h1 := h.step ((Below.refl _ u).alloc (Nat.le_refl _) (.cells #[.string ⟨#[97]⟩, .string ⟨#[98]⟩, .string ⟨#[97]⟩] 9))
 exact ⟨h1.bel, h1.f1, h1.f2, fun g e => (by injection e with e; rw [← e]; exact at_push _ _)⟩
theorem E5.load (h : E5 W0 u n o1 o2 o3) {r : Nat} (g : Nat) (e : o2 = some g) (hr : r < 3) : u.cell? ⟨g, r, none⟩ = some (.string (abc r)) := abc_cell (h.f2 g e) hr
theorem E5.ir (h : E5 W0 u n o1 o2 o3) (g : Nat) (e : o1 = some g) : IR u (.slice (some ⟨g, 0, none⟩) 3 3) [(n : Int) % 7, (n : Int) / 7 % 7 - 1, (n : Int) % 7] := lit_IR (l := [(n : Int) % 7, (n : Int) / 7 % 7 - 1, (n : Int) % 7]) (h.f1 g e)
theorem E5.sr (h : E5 W0 u n o1 o2 o3) {q : Nat} (hq : q ≤ 3) (g : Nat) (e : o3 = some g) : SR u.heap.size u (.slice (some ⟨g, 0, none⟩) q 3) (([⟨#[97]⟩, ⟨#[98]⟩, ⟨#[97]⟩] : List ByteArray).take q) := by
 have hl : (([⟨#[97]⟩, ⟨#[98]⟩, ⟨#[97]⟩] : List ByteArray).take q).length = q := by simp; omega
 refine ⟨some ⟨g, 0, none⟩, 3, by rw [hl], fun _ => ⟨⟨g, 0, none⟩, rfl, (Array.getElem?_eq_some_iff.1 (h.f3 g e)).1, fun k hk => ?_⟩⟩
 have hk3 : k < 3 := by rw [hl] at hk; omega
 rw [List.getElem_take]
 exact row_cells8 (l := [.string ⟨#[97]⟩, .string ⟨#[98]⟩, .string ⟨#[97]⟩]) (h.f3 g e) k _ (by
  match k, hk3 with
  | 0, _ => rfl
  | 1, _ => rfl
  | 2, _ => rfl)
end

/-- the labels of the wide one -/
def wPs (k : Nat) : List (X × Value) := (List.range k).map fun i => (labX (abc (i % 3)), .slice none 0 0)
def wideX (k : Nat) : X := .mk 3 ⟨#[]⟩ ((wPs k).map Prod.fst)
theorem wPs_len (k : Nat) : (wPs k).length = k := by simp [wPs]
theorem abc_size (i : Nat) (h : i < 3) : (abc i).size ≤ 100 := by
 match i, h with
 | 0, _ => decide
 | 1, _ => decide
 | 2, _ => decide
theorem wide_lit (k : Nat) : (wideX k).lit := by
 show (ofX 3 ((wPs k).map Prod.fst)).lit
 refine lit_of fun y hy => ?_
 obtain ⟨p, hp, rfl⟩ := List.mem_map.1 hy
 obtain ⟨i, _, rfl⟩ := List.mem_map.1 hp
 exact lit_lab _ (abc_size _ (Nat.mod_lt _ (by decide)))
theorem zero_lit : (X.mk 0 ⟨#[]⟩ []).lit := by
 have h : (ofX 0 []).lit := lit_of (fun y hy => by cases hy)
 exact h
/-- the wide one, as it grows -/
structure WD (w W : World) (BW k : Nat) (kv : Value) : Prop where
 bel : Below w.heap.size w W
 hB : w.heap.size ≤ BW
 box : W.heap[BW]? = some (.cells #[.int .i64 3, .string ⟨#[]⟩, kv] 25 (0, 0))
 row : W.ownsRow (BW + 1) 25 3 kv k (flatP (wPs k))
section
variable {w W W' : World} {BW k : Nat} {kv : Value}
theorem WD.lt (h : WD w W BW k kv) : BW < W.heap.size := (Array.getElem?_eq_some_iff.1 h.box).1
theorem WD.bel' (h : WD w W BW k kv) (hb : Below W.heap.size W W') : WD w W' BW k kv := ⟨h.bel.trans (hb.mono h.bel.size), h.hB, (hb.block _ h.lt).trans h.box, own_bel h.row hb⟩
theorem WD.c2 (h : WD w W BW k kv) : W.cell? ⟨BW, 2, none⟩ = some kv := cell_of_row _ _ 2 _ 25 (0, 0) h.box
theorem WD.xv (h : WD w W BW k kv) : XV W.heap.size W (.agg #[.int .i64 3, .string ⟨#[]⟩, kv]) (wideX k) := by
 refine ⟨kv, rfl, ?_⟩
 have hr := h.row
 rw [← wPs_len k] at hr
 rw [wPs_len k] at hr
 exact own_XR (q := fun b => b < W.heap.size) (B := BW + 1) (by rw [wPs_len]; exact hr) (fun p hp => by
  obtain ⟨i, _, rfl⟩ := List.mem_map.1 hp
  exact XQ.nil _ _) (fun b hb => hb)
theorem WD.more {v' : Value} {u4 : World} {r3 : Nat} (h : WD w W BW k kv) (hr3 : k % 3 = r3) (hown : u4.ownsRow (BW + 1) 25 3 v' (k + 1) (flatP (wPs k) ++ [.int .i64 1, .string (abc r3), .slice none 0 0])) (hg : W.grownBy u4 kv.ownBlock) :
  (u4.cell? ⟨BW, 2, none⟩ = some kv ∧ u4.frozen? ⟨BW, 2, none⟩ = false) ∧ WD w (u4.setCell ⟨BW, 2, none⟩ v') BW (k + 1) v' := by
 have hb4 : u4.heap[BW]? = some (.cells #[.int .i64 3, .string ⟨#[]⟩, kv] 25 (0, 0)) := (hg.block BW h.lt (fun e => by have := (h.row.lt BW e.symm).1; omega)).trans h.box
 refine ⟨⟨cell_of_row _ _ 2 _ 25 (0, 0) hb4, by simp [World.frozen?, hb4]⟩, ?_, h.hB, ?_, ?_⟩
 ·have h1 : Below w.heap.size w u4 := h.bel.grown hg h.bel.size (fun g e => Nat.le_trans (Nat.le_succ_of_le h.hB) (h.row.lt g e).1)
  exact h1.setCell (p := ⟨BW, 2, none⟩) h.hB v'
 ·exact heap_set (l := [_, _, _]) hb4 v'
 ·have e : flatP (wPs (k + 1)) = flatP (wPs k) ++ [.int .i64 1, .string (abc r3), .slice none 0 0] := by
   unfold wPs
   rw [List.range_succ, List.map_append, flatP_app, List.map_singleton, flatP_cons, flatP_nil, hr3]
   rfl
  rw [e]
  refine ownsRow_setCell_other hown (a := ⟨BW, 2, none⟩) (fun e => ?_) v'
  have := (hown.lt BW e).1
  omega
end

set_option maxRecDepth 100000 in
set_option maxHeartbeats 16000000 in
theorem ends_any {w : World} (hT : Tb w) : Calls Tryd.prog 5 #[] w fun e w' => e = .returned (.bool true) ∧ Below w.heap.size w w' := by
 have HTW := Lib.hid (fun W (h : Below w.heap.size w W) => hT.below h hT.pos)
 obtain ⟨i25, hi25, hz25, hs25, hb25⟩ := info_parts parts25
 clear hT
 go_enter Tryd.func5, Tryd.ntmps5
 go_upto_region 2 with (fail)
 go_loopw [1] (fun u1 wr => ∃ n : Nat, n ≤ 4100 ∧ u1 = .int .i64 n ∧ Below w.heap.size w wr) (fun u1 _ => 4101 - (intOf u1).toNat)
 case atStart => exact ⟨0, Nat.zero_le _, rfl, Below.refl _ _⟩
 case round =>
  obtain ⟨n, hn, rfl, hb0⟩ := hrel
  have HBR := Lib.hid hb0
  clear hb0
  by_cases hlt : n < 4096
  ·have hni : (n : Int) < 4096 := by omega
   have HSM := Lib.hid (fun W => show Calls Tryd.prog 33 #[.int .i64 n, .int .i64 2] W (S33 W) from small33_any 2 (by omega) n (by omega) W)
   unfold S33 at HSM
   go_upto_region 5 with (go_at_call 33; refine (HSM.out _).mono ?_; rintro e w1 ⟨x, kv, rfl, hq, hl, hb⟩; obtain ⟨A, c, hkv⟩ := hq.form; subst hkv; have H1 := Lib.hid (And.intro hq (And.intro hl hb)); clear hq hl hb)
   obtain ⟨W4, hW4⟩ : ∃ z, w1.alloc (.cells #[.int .i64 x.kind, .string x.lab, .slice A x.kids.length c] 25) = z := ⟨_, rfl⟩
   have hb4 : Below w1.heap.size w1 W4 := by rw [← hW4]; exact (Below.refl _ w1).alloc (Nat.le_refl _) _
   have hc4 : W4.heap[w1.heap.size]? = some (.cells #[.int .i64 x.kind, .string x.lab, .slice A x.kids.length c] 25 (0, 0)) := by rw [← hW4]; exact at_push _ _
   obtain ⟨E, hE⟩ : ∃ z, w1.heap.size = z := ⟨_, rfl⟩
   rw [hW4, hE]
   rw [hE] at hc4
   have HL := Lib.hid H1.out.2.1
   have HX := Lib.hid (show ∀ W, Below W4.heap.size W4 W → XV W4.heap.size W (.agg #[.int .i64 x.kind, .string x.lab, .slice A x.kids.length c]) x from fun W hW => XV.mono (XV.bel (B := w1.heap.size) ⟨_, rfl, H1.out.1.xr (fun b hb => hb.2)⟩ (hb4.trans (hW.mono hb4.size))) hb4.size)
   have HC := Lib.hid (show ∀ W, Below W4.heap.size W4 W → W.cell? ⟨E, 0, none⟩ = some (.int .i64 x.kind) ∧ W.cell? ⟨E, 1, none⟩ = some (.string x.lab) ∧ W.cell? ⟨E, 2, none⟩ = some (.slice A x.kids.length c) from fun W hW => box3 ((hW.block _ (Array.getElem?_eq_some_iff.1 hc4).1).trans hc4))
   have HB4 := Lib.hid (show Below w.heap.size w W4 from (HBR.out.trans (H1.out.2.2.mono HBR.out.size)).trans (hb4.mono (Nat.le_trans HBR.out.size H1.out.2.2.size)))
   have HTB := Lib.hid (show ∀ W, Below W4.heap.size W4 W → Tb W from fun W hW => HTW.out W (HB4.out.trans (hW.mono HB4.out.size)))
   clear hW4 hE hb4 hc4 H1 HSM HBR
   obtain ⟨r3, hr3e⟩ : ∃ r : Nat, n % 3 = r := ⟨_, rfl⟩
   obtain ⟨q4, hq4e⟩ : ∃ r : Nat, n % 4 = r := ⟨_, rfl⟩
   have hr3 : r3 < 3 := by omega
   have HQ4 := Lib.hid (show q4 ≤ 3 by omega)
   have hm3 : (n : Int).tmod 3 = (r3 : Int) := by rw [Int.tmod_eq_emod_of_nonneg (by omega)]; omega
   have hm4 : (n : Int).tmod 4 = (q4 : Int) := by rw [Int.tmod_eq_emod_of_nonneg (by omega)]; omega
   clear hr3e hq4e
   obtain ⟨u0, hu0⟩ : ∃ z, W4.drew = z := ⟨_, rfl⟩
   have D0 := Lib.hid (show E5 W4 u0 n none none none from ⟨by rw [← hu0]; exact (Below.refl _ _).drew, fun g e => (by cases e), fun g e => (by cases e), fun g e => (by cases e)⟩)
   refine wp_region_noPanic ?_
   refine wp_region_held_drew (S := fun W => W.cell? ⟨E, 0, none⟩ = some (.int .i64 x.kind) ∧ W.cell? ⟨E, 1, none⟩ = some (.string x.lab) ∧ W.cell? ⟨E, 2, none⟩ = some (.slice A x.kids.length c)) (by kernel_rfl) (by rw [hu0]; exact HC.out _ D0.out.bel) (fun hHeld => ?_)
   clear hHeld
   rw [hu0]
   clear hu0
   refine tkI (i := 0) (v := .agg #[.int .i64 x.kind, .string x.lab, .slice A x.kids.length c]) rfl ⟨by rfl, ?_⟩ (HC.out _ D0.out.bel) ?_
   ·intro ww hSw
    obtain ⟨hs0, hs1, hs2⟩ := hSw
    go_simp
   try simp only [Act.put, z1, z2, z3, z4, z5, z6]
   refine tkI (i := 1) (v := .int .i64 n) rfl ⟨by rfl, ?_⟩ (HC.out _ D0.out.bel) ?_
   ·intro ww hSw
    obtain ⟨hs0, hs1, hs2⟩ := hSw
    go_simp
   try simp only [Act.put, z1, z2, z3, z4, z5, z6]
   refine tkI (i := 2) (v := .int .i64 ((n : Int) % 9)) rfl ⟨by rfl, ?_⟩ (HC.out _ D0.out.bel) ?_
   ·intro ww hSw
    obtain ⟨hs0, hs1, hs2⟩ := hSw
    go_simp
    exact Int.tmod_eq_emod_of_nonneg (by omega)
   try simp only [Act.put, z1, z2, z3, z4, z5, z6]
   refine tkI (i := 3) (v := .int .i64 ((n : Int) % 9 - 2)) rfl ⟨by rfl, ?_⟩ (HC.out _ D0.out.bel) ?_
   ·intro ww hSw
    obtain ⟨hs0, hs1, hs2⟩ := hSw
    go_simp
    exact IntWalk.i64_in _ ⟨by omega, by omega⟩
   try simp only [Act.put, z1, z2, z3, z4, z5, z6]
   refine wpAnyH_ready (rs := [4]) (by kernel_rfl) (by simp) ?_
   refine AllReadyH.cons rfl (fun k_ hK => ?_) (AllReadyH.nil)
   go_simp
   refine (tells_any (HX.out _ D0.out.bel) (Nat.le_trans (Nat.le_refl _) D0.out.bel.size) HL.out (HTB.out _ D0.out.bel) _).mono ?_
   rintro e u1 ⟨rfl, hb⟩
   have D1 := Lib.hid (D0.out.step hb)
   clear hb
   refine hK.out _ _ (HC.out _ D1.out.bel) (fun _ => ?_)
   clear hK
   try simp only [Act.put, z1, z2, z3, z4, z5, z6]
   refine tkI (i := 5) (v := .bool false) rfl ⟨by rfl, ?_⟩ (HC.out _ D1.out.bel) ?_
   ·intro ww hSw
    obtain ⟨hs0, hs1, hs2⟩ := hSw
    go_simp
   try simp only [Act.put, z1, z2, z3, z4, z5, z6]
   refine tkI (i := 6) (v := .bool false) rfl ⟨by rfl, ?_⟩ (HC.out _ D1.out.bel) ?_
   ·intro ww hSw
    obtain ⟨hs0, hs1, hs2⟩ := hSw
    go_simp
   try simp only [Act.put, z1, z2, z3, z4, z5, z6]
   refine tkI (i := 7) (v := .agg #[.int .i64 x.kind, .string x.lab, .slice A x.kids.length c]) rfl ⟨by rfl, ?_⟩ (HC.out _ D1.out.bel) ?_
   ·intro ww hSw
    obtain ⟨hs0, hs1, hs2⟩ := hSw
    go_simp
   try simp only [Act.put, z1, z2, z3, z4, z5, z6]
   refine tkI (i := 8) (v := .int .i64 n) rfl ⟨by rfl, ?_⟩ (HC.out _ D1.out.bel) ?_
   ·intro ww hSw
    obtain ⟨hs0, hs1, hs2⟩ := hSw
    go_simp
   try simp only [Act.put, z1, z2, z3, z4, z5, z6]
   refine tkI (i := 9) (v := .int .i64 ((n : Int) % 7)) rfl ⟨by rfl, ?_⟩ (HC.out _ D1.out.bel) ?_
   ·intro ww hSw
    obtain ⟨hs0, hs1, hs2⟩ := hSw
    go_simp
    exact Int.tmod_eq_emod_of_nonneg (by omega)
   try simp only [Act.put, z1, z2, z3, z4, z5, z6]
   refine tkI (i := 10) (v := .int .i64 n) rfl ⟨by rfl, ?_⟩ (HC.out _ D1.out.bel) ?_
   ·intro ww hSw
    obtain ⟨hs0, hs1, hs2⟩ := hSw
    go_simp
   try simp only [Act.put, z1, z2, z3, z4, z5, z6]
   refine tkI (i := 11) (v := .int .i64 ((n : Int) / 7)) rfl ⟨by rfl, ?_⟩ (HC.out _ D1.out.bel) ?_
   ·intro ww hSw
    obtain ⟨hs0, hs1, hs2⟩ := hSw
    go_simp
    exact IntWalk.i64_in _ ⟨by omega, by omega⟩
   try simp only [Act.put, z1, z2, z3, z4, z5, z6]
   refine tkI (i := 12) (v := .int .i64 ((n : Int) / 7 % 7)) rfl ⟨by rfl, ?_⟩ (HC.out _ D1.out.bel) ?_
   ·intro ww hSw
    obtain ⟨hs0, hs1, hs2⟩ := hSw
    go_simp
    exact Int.tmod_eq_emod_of_nonneg (by omega)
   try simp only [Act.put, z1, z2, z3, z4, z5, z6]
   refine tkI (i := 13) (v := .int .i64 ((n : Int) / 7 % 7 - 1)) rfl ⟨by rfl, ?_⟩ (HC.out _ D1.out.bel) ?_
   ·intro ww hSw
    obtain ⟨hs0, hs1, hs2⟩ := hSw
    go_simp
    exact IntWalk.i64_in _ ⟨by omega, by omega⟩
   try simp only [Act.put, z1, z2, z3, z4, z5, z6]
   refine tkI (i := 14) (v := .int .i64 n) rfl ⟨by rfl, ?_⟩ (HC.out _ D1.out.bel) ?_
   ·intro ww hSw
    obtain ⟨hs0, hs1, hs2⟩ := hSw
    go_simp
   try simp only [Act.put, z1, z2, z3, z4, z5, z6]
   refine tkI (i := 15) (v := .int .i64 ((n : Int) % 7)) rfl ⟨by rfl, ?_⟩ (HC.out _ D1.out.bel) ?_
   ·intro ww hSw
    obtain ⟨hs0, hs1, hs2⟩ := hSw
    go_simp
    exact Int.tmod_eq_emod_of_nonneg (by omega)
   try simp only [Act.put, z1, z2, z3, z4, z5, z6]
   refine tkI (i := 18) (v := .int .i64 n) rfl ⟨by rfl, ?_⟩ (HC.out _ D1.out.bel) ?_
   ·intro ww hSw
    obtain ⟨hs0, hs1, hs2⟩ := hSw
    go_simp
   try simp only [Act.put, z1, z2, z3, z4, z5, z6]
   refine tkI (i := 19) (v := .int .i64 r3) rfl ⟨by rfl, ?_⟩ (HC.out _ D1.out.bel) ?_
   ·intro ww hSw
    obtain ⟨hs0, hs1, hs2⟩ := hSw
    go_simp
   try simp only [Act.put, z1, z2, z3, z4, z5, z6]
   refine tkI (i := 23) (v := .int .i64 n) rfl ⟨by rfl, ?_⟩ (HC.out _ D1.out.bel) ?_
   ·intro ww hSw
    obtain ⟨hs0, hs1, hs2⟩ := hSw
    go_simp
   try simp only [Act.put, z1, z2, z3, z4, z5, z6]
   refine tkI (i := 24) (v := .int .i64 q4) rfl ⟨by rfl, ?_⟩ (HC.out _ D1.out.bel) ?_
   ·intro ww hSw
    obtain ⟨hs0, hs1, hs2⟩ := hSw
    go_simp
   try simp only [Act.put, z1, z2, z3, z4, z5, z6]
   refine wpAnyH_ready (rs := [16, 17, 22]) (by kernel_rfl) (by simp) ?_
   refine AllReadyH.cons rfl (fun k_ hK => ?_) (AllReadyH.cons rfl (fun k_ hK => ?_) (AllReadyH.cons rfl (fun k_ hK => ?_) (AllReadyH.nil)))
   ·go_simp
    have hd := D1.out.a1
    refine hK.out _ _ (HC.out _ hd.bel) (fun _ => ?_)
    clear hK
    try simp only [Act.put, z1, z2, z3, z4, z5, z6]
    obtain ⟨g1, hgg⟩ : ∃ z, u1.heap.size = z := ⟨_, rfl⟩
    obtain ⟨y1, huu⟩ : ∃ z, u1.alloc (.cells #[.int .i64 ((n : Int) % 7), .int .i64 ((n : Int) / 7 % 7 - 1), .int .i64 ((n : Int) % 7)] 3) = z := ⟨_, rfl⟩
    rw [hgg, huu] at hd ⊢
    have F1 := Lib.hid hd
    clear hd hgg huu
    refine wpAnyH_ready (rs := [17, 22]) (by kernel_rfl) (by simp) ?_
    refine AllReadyH.cons rfl (fun k_ hK => ?_) (AllReadyH.cons rfl (fun k_ hK => ?_) (AllReadyH.nil))
    ·go_simp
     have hd := F1.out.a2
     refine hK.out _ _ (HC.out _ hd.bel) (fun _ => ?_)
     clear hK
     try simp only [Act.put, z1, z2, z3, z4, z5, z6]
     obtain ⟨g2, hgg⟩ : ∃ z, y1.heap.size = z := ⟨_, rfl⟩
     obtain ⟨y2, huu⟩ : ∃ z, y1.alloc (.cells #[.string ⟨#[97]⟩, .string ⟨#[98]⟩, .string ⟨#[99]⟩] 9) = z := ⟨_, rfl⟩
     rw [hgg, huu] at hd ⊢
     have F2 := Lib.hid hd
     clear hd hgg huu
     refine tkI (i := 20) (v := .pointer (some ⟨g2, r3, none⟩)) rfl ⟨by rfl, ?_⟩ (HC.out _ F2.out.bel) ?_
     ·intro ww hSw
      obtain ⟨hs0, hs1, hs2⟩ := hSw
      have h1 : (r3 : Int) < 3 := (by omega); have h2 : ¬ (3 : Int) ≤ (r3 : Int) := (by omega); go_simp; try (intro h3; omega)
     try simp only [Act.put, z1, z2, z3, z4, z5, z6]
     refine wpAnyH_ready (rs := [21, 22]) (by kernel_rfl) (by simp) ?_
     refine AllReadyH.cons rfl (fun k_ hK => ?_) (AllReadyH.cons rfl (fun k_ hK => ?_) (AllReadyH.nil))
     ·have q0 := F2.out.load _ rfl hr3
      go_simp
      clear q0
      refine hK.out _ _ (HC.out _ F2.out.bel) (fun _ => ?_)
      clear hK
      try simp only [Act.put, z1, z2, z3, z4, z5, z6]
      refine wpAnyH_ready (rs := [22]) (by kernel_rfl) (by simp) ?_
      refine AllReadyH.cons rfl (fun k_ hK => ?_) (AllReadyH.nil)
      go_simp
      have hd := F2.out.a3
      refine hK.out _ _ (HC.out _ hd.bel) (fun _ => ?_)
      clear hK
      try simp only [Act.put, z1, z2, z3, z4, z5, z6]
      obtain ⟨g3, hgg⟩ : ∃ z, y2.heap.size = z := ⟨_, rfl⟩
      obtain ⟨y4, huu⟩ : ∃ z, y2.alloc (.cells #[.string ⟨#[97]⟩, .string ⟨#[98]⟩, .string ⟨#[97]⟩] 9) = z := ⟨_, rfl⟩
      rw [hgg, huu] at hd ⊢
      have F4 := Lib.hid hd
      clear hd hgg huu
      refine tkI (i := 25) (v := .slice (some ⟨g3, 0, none⟩) q4 3) rfl ⟨by rfl, ?_⟩ (HC.out _ F4.out.bel) ?_
      ·intro ww hSw
       obtain ⟨hs0, hs1, hs2⟩ := hSw
       have h1 := HQ4.out; have h2 : (q4 : Int) ≤ 3 := (by omega); go_simp; try (intro h3; omega)
      try simp only [Act.put, z1, z2, z3, z4, z5, z6]
      refine wpAnyH_ready (rs := [26]) (by kernel_rfl) (by simp) ?_
      refine AllReadyH.cons rfl (fun k_ hK => ?_) (AllReadyH.nil)
      go_simp
      refine (steps_any (HX.out _ F4.out.bel) F4.out.bel.size HL.out (F4.out.ir _ rfl) (F4.out.sr HQ4.out _ rfl) (Nat.le_refl _) (HTB.out _ F4.out.bel) _).mono ?_
      rintro e u9 ⟨rfl, hb⟩
      have D9 := Lib.hid (F4.out.step hb)
      clear hb
      refine hK.out _ _ (HC.out _ D9.out.bel) (fun _ => ?_)
      clear hK
      try simp only [Act.put, z1, z2, z3, z4, z5, z6]
      refine tkI (i := 27) (v := .bool false) rfl ⟨by rfl, ?_⟩ (HC.out _ D9.out.bel) ?_
      ·intro ww hSw
       obtain ⟨hs0, hs1, hs2⟩ := hSw
       go_simp
      try simp only [Act.put, z1, z2, z3, z4, z5, z6]
      refine tkI (i := 28) (v := .bool false) rfl ⟨by rfl, ?_⟩ (HC.out _ D9.out.bel) ?_
      ·intro ww hSw
       obtain ⟨hs0, hs1, hs2⟩ := hSw
       go_simp
      try simp only [Act.put, z1, z2, z3, z4, z5, z6]
      refine ⟨by kernel_rfl, ?_⟩
      refine NoPanic.normal ?_
      go_wp2_with fail
      go_roundw
      case rel => exact ⟨n + 1 + n % 5, by omega, by go_num, HB4.out.trans (D9.out.bel.mono HB4.out.size)⟩
      case measure => simp [intOf]; omega
     ·go_simp
      have hd := F2.out.a3
      refine hK.out _ _ (HC.out _ hd.bel) (fun _ => ?_)
      clear hK
      try simp only [Act.put, z1, z2, z3, z4, z5, z6]
      obtain ⟨g3, hgg⟩ : ∃ z, y2.heap.size = z := ⟨_, rfl⟩
      obtain ⟨y5, huu⟩ : ∃ z, y2.alloc (.cells #[.string ⟨#[97]⟩, .string ⟨#[98]⟩, .string ⟨#[97]⟩] 9) = z := ⟨_, rfl⟩
      rw [hgg, huu] at hd ⊢
      have F5 := Lib.hid hd
      clear hd hgg huu
      refine tkI (i := 25) (v := .slice (some ⟨g3, 0, none⟩) q4 3) rfl ⟨by rfl, ?_⟩ (HC.out _ F5.out.bel) ?_
      ·intro ww hSw
       obtain ⟨hs0, hs1, hs2⟩ := hSw
       have h1 := HQ4.out; have h2 : (q4 : Int) ≤ 3 := (by omega); go_simp; try (intro h3; omega)
      try simp only [Act.put, z1, z2, z3, z4, z5, z6]
      refine wpAnyH_ready (rs := [21]) (by kernel_rfl) (by simp) ?_
      refine AllReadyH.cons rfl (fun k_ hK => ?_) (AllReadyH.nil)
      have q0 := F5.out.load _ rfl hr3
      go_simp
      clear q0
      refine hK.out _ _ (HC.out _ F5.out.bel) (fun _ => ?_)
      clear hK
      try simp only [Act.put, z1, z2, z3, z4, z5, z6]
      refine wpAnyH_ready (rs := [26]) (by kernel_rfl) (by simp) ?_
      refine AllReadyH.cons rfl (fun k_ hK => ?_) (AllReadyH.nil)
      go_simp
      refine (steps_any (HX.out _ F5.out.bel) F5.out.bel.size HL.out (F5.out.ir _ rfl) (F5.out.sr HQ4.out _ rfl) (Nat.le_refl _) (HTB.out _ F5.out.bel) _).mono ?_
      rintro e u9 ⟨rfl, hb⟩
      have D9 := Lib.hid (F5.out.step hb)
      clear hb
      refine hK.out _ _ (HC.out _ D9.out.bel) (fun _ => ?_)
      clear hK
      try simp only [Act.put, z1, z2, z3, z4, z5, z6]
      refine tkI (i := 27) (v := .bool false) rfl ⟨by rfl, ?_⟩ (HC.out _ D9.out.bel) ?_
      ·intro ww hSw
       obtain ⟨hs0, hs1, hs2⟩ := hSw
       go_simp
      try simp only [Act.put, z1, z2, z3, z4, z5, z6]
      refine tkI (i := 28) (v := .bool false) rfl ⟨by rfl, ?_⟩ (HC.out _ D9.out.bel) ?_
      ·intro ww hSw
       obtain ⟨hs0, hs1, hs2⟩ := hSw
       go_simp
      try simp only [Act.put, z1, z2, z3, z4, z5, z6]
      refine ⟨by kernel_rfl, ?_⟩
      refine NoPanic.normal ?_
      go_wp2_with fail
      go_roundw
      case rel => exact ⟨n + 1 + n % 5, by omega, by go_num, HB4.out.trans (D9.out.bel.mono HB4.out.size)⟩
      case measure => simp [intOf]; omega
    ·go_simp
     have hd := F1.out.a3
     refine hK.out _ _ (HC.out _ hd.bel) (fun _ => ?_)
     clear hK
     try simp only [Act.put, z1, z2, z3, z4, z5, z6]
     obtain ⟨g3, hgg⟩ : ∃ z, y1.heap.size = z := ⟨_, rfl⟩
     obtain ⟨y7, huu⟩ : ∃ z, y1.alloc (.cells #[.string ⟨#[97]⟩, .string ⟨#[98]⟩, .string ⟨#[97]⟩] 9) = z := ⟨_, rfl⟩
     rw [hgg, huu] at hd ⊢
     have F7 := Lib.hid hd
     clear hd hgg huu
     refine tkI (i := 25) (v := .slice (some ⟨g3, 0, none⟩) q4 3) rfl ⟨by rfl, ?_⟩ (HC.out _ F7.out.bel) ?_
     ·intro ww hSw
      obtain ⟨hs0, hs1, hs2⟩ := hSw
      have h1 := HQ4.out; have h2 : (q4 : Int) ≤ 3 := (by omega); go_simp; try (intro h3; omega)
     try simp only [Act.put, z1, z2, z3, z4, z5, z6]
     refine wpAnyH_ready (rs := [17]) (by kernel_rfl) (by simp) ?_
     refine AllReadyH.cons rfl (fun k_ hK => ?_) (AllReadyH.nil)
     go_simp
     have hd := F7.out.a2
     refine hK.out _ _ (HC.out _ hd.bel) (fun _ => ?_)
     clear hK
     try simp only [Act.put, z1, z2, z3, z4, z5, z6]
     obtain ⟨g2, hgg⟩ : ∃ z, y7.heap.size = z := ⟨_, rfl⟩
     obtain ⟨y8, huu⟩ : ∃ z, y7.alloc (.cells #[.string ⟨#[97]⟩, .string ⟨#[98]⟩, .string ⟨#[99]⟩] 9) = z := ⟨_, rfl⟩
     rw [hgg, huu] at hd ⊢
     have F8 := Lib.hid hd
     clear hd hgg huu
     refine tkI (i := 20) (v := .pointer (some ⟨g2, r3, none⟩)) rfl ⟨by rfl, ?_⟩ (HC.out _ F8.out.bel) ?_
     ·intro ww hSw
      obtain ⟨hs0, hs1, hs2⟩ := hSw
      have h1 : (r3 : Int) < 3 := (by omega); have h2 : ¬ (3 : Int) ≤ (r3 : Int) := (by omega); go_simp; try (intro h3; omega)
     try simp only [Act.put, z1, z2, z3, z4, z5, z6]
     refine wpAnyH_ready (rs := [21]) (by kernel_rfl) (by simp) ?_
     refine AllReadyH.cons rfl (fun k_ hK => ?_) (AllReadyH.nil)
     have q0 := F8.out.load _ rfl hr3
     go_simp
     clear q0
     refine hK.out _ _ (HC.out _ F8.out.bel) (fun _ => ?_)
     clear hK
     try simp only [Act.put, z1, z2, z3, z4, z5, z6]
     refine wpAnyH_ready (rs := [26]) (by kernel_rfl) (by simp) ?_
     refine AllReadyH.cons rfl (fun k_ hK => ?_) (AllReadyH.nil)
     go_simp
     refine (steps_any (HX.out _ F8.out.bel) F8.out.bel.size HL.out (F8.out.ir _ rfl) (F8.out.sr HQ4.out _ rfl) (Nat.le_refl _) (HTB.out _ F8.out.bel) _).mono ?_
     rintro e u9 ⟨rfl, hb⟩
     have D9 := Lib.hid (F8.out.step hb)
     clear hb
     refine hK.out _ _ (HC.out _ D9.out.bel) (fun _ => ?_)
     clear hK
     try simp only [Act.put, z1, z2, z3, z4, z5, z6]
     refine tkI (i := 27) (v := .bool false) rfl ⟨by rfl, ?_⟩ (HC.out _ D9.out.bel) ?_
     ·intro ww hSw
      obtain ⟨hs0, hs1, hs2⟩ := hSw
      go_simp
     try simp only [Act.put, z1, z2, z3, z4, z5, z6]
     refine tkI (i := 28) (v := .bool false) rfl ⟨by rfl, ?_⟩ (HC.out _ D9.out.bel) ?_
     ·intro ww hSw
      obtain ⟨hs0, hs1, hs2⟩ := hSw
      go_simp
     try simp only [Act.put, z1, z2, z3, z4, z5, z6]
     refine ⟨by kernel_rfl, ?_⟩
     refine NoPanic.normal ?_
     go_wp2_with fail
     go_roundw
     case rel => exact ⟨n + 1 + n % 5, by omega, by go_num, HB4.out.trans (D9.out.bel.mono HB4.out.size)⟩
     case measure => simp [intOf]; omega
   ·go_simp
    have hd := D1.out.a2
    refine hK.out _ _ (HC.out _ hd.bel) (fun _ => ?_)
    clear hK
    try simp only [Act.put, z1, z2, z3, z4, z5, z6]
    obtain ⟨g2, hgg⟩ : ∃ z, u1.heap.size = z := ⟨_, rfl⟩
    obtain ⟨y10, huu⟩ : ∃ z, u1.alloc (.cells #[.string ⟨#[97]⟩, .string ⟨#[98]⟩, .string ⟨#[99]⟩] 9) = z := ⟨_, rfl⟩
    rw [hgg, huu] at hd ⊢
    have F10 := Lib.hid hd
    clear hd hgg huu
    refine tkI (i := 20) (v := .pointer (some ⟨g2, r3, none⟩)) rfl ⟨by rfl, ?_⟩ (HC.out _ F10.out.bel) ?_
    ·intro ww hSw
     obtain ⟨hs0, hs1, hs2⟩ := hSw
     have h1 : (r3 : Int) < 3 := (by omega); have h2 : ¬ (3 : Int) ≤ (r3 : Int) := (by omega); go_simp; try (intro h3; omega)
    try simp only [Act.put, z1, z2, z3, z4, z5, z6]
    refine wpAnyH_ready (rs := [16, 21, 22]) (by kernel_rfl) (by simp) ?_
    refine AllReadyH.cons rfl (fun k_ hK => ?_) (AllReadyH.cons rfl (fun k_ hK => ?_) (AllReadyH.cons rfl (fun k_ hK => ?_) (AllReadyH.nil)))
    ·go_simp
     have hd := F10.out.a1
     refine hK.out _ _ (HC.out _ hd.bel) (fun _ => ?_)
     clear hK
     try simp only [Act.put, z1, z2, z3, z4, z5, z6]
     obtain ⟨g1, hgg⟩ : ∃ z, y10.heap.size = z := ⟨_, rfl⟩
     obtain ⟨y11, huu⟩ : ∃ z, y10.alloc (.cells #[.int .i64 ((n : Int) % 7), .int .i64 ((n : Int) / 7 % 7 - 1), .int .i64 ((n : Int) % 7)] 3) = z := ⟨_, rfl⟩
     rw [hgg, huu] at hd ⊢
     have F11 := Lib.hid hd
     clear hd hgg huu
     refine wpAnyH_ready (rs := [21, 22]) (by kernel_rfl) (by simp) ?_
     refine AllReadyH.cons rfl (fun k_ hK => ?_) (AllReadyH.cons rfl (fun k_ hK => ?_) (AllReadyH.nil))
     ·have q0 := F11.out.load _ rfl hr3
      go_simp
      clear q0
      refine hK.out _ _ (HC.out _ F11.out.bel) (fun _ => ?_)
      clear hK
      try simp only [Act.put, z1, z2, z3, z4, z5, z6]
      refine wpAnyH_ready (rs := [22]) (by kernel_rfl) (by simp) ?_
      refine AllReadyH.cons rfl (fun k_ hK => ?_) (AllReadyH.nil)
      go_simp
      have hd := F11.out.a3
      refine hK.out _ _ (HC.out _ hd.bel) (fun _ => ?_)
      clear hK
      try simp only [Act.put, z1, z2, z3, z4, z5, z6]
      obtain ⟨g3, hgg⟩ : ∃ z, y11.heap.size = z := ⟨_, rfl⟩
      obtain ⟨y13, huu⟩ : ∃ z, y11.alloc (.cells #[.string ⟨#[97]⟩, .string ⟨#[98]⟩, .string ⟨#[97]⟩] 9) = z := ⟨_, rfl⟩
      rw [hgg, huu] at hd ⊢
      have F13 := Lib.hid hd
      clear hd hgg huu
      refine tkI (i := 25) (v := .slice (some ⟨g3, 0, none⟩) q4 3) rfl ⟨by rfl, ?_⟩ (HC.out _ F13.out.bel) ?_
      ·intro ww hSw
       obtain ⟨hs0, hs1, hs2⟩ := hSw
       have h1 := HQ4.out; have h2 : (q4 : Int) ≤ 3 := (by omega); go_simp; try (intro h3; omega)
      try simp only [Act.put, z1, z2, z3, z4, z5, z6]
      refine wpAnyH_ready (rs := [26]) (by kernel_rfl) (by simp) ?_
      refine AllReadyH.cons rfl (fun k_ hK => ?_) (AllReadyH.nil)
      go_simp
      refine (steps_any (HX.out _ F13.out.bel) F13.out.bel.size HL.out (F13.out.ir _ rfl) (F13.out.sr HQ4.out _ rfl) (Nat.le_refl _) (HTB.out _ F13.out.bel) _).mono ?_
      rintro e u9 ⟨rfl, hb⟩
      have D9 := Lib.hid (F13.out.step hb)
      clear hb
      refine hK.out _ _ (HC.out _ D9.out.bel) (fun _ => ?_)
      clear hK
      try simp only [Act.put, z1, z2, z3, z4, z5, z6]
      refine tkI (i := 27) (v := .bool false) rfl ⟨by rfl, ?_⟩ (HC.out _ D9.out.bel) ?_
      ·intro ww hSw
       obtain ⟨hs0, hs1, hs2⟩ := hSw
       go_simp
      try simp only [Act.put, z1, z2, z3, z4, z5, z6]
      refine tkI (i := 28) (v := .bool false) rfl ⟨by rfl, ?_⟩ (HC.out _ D9.out.bel) ?_
      ·intro ww hSw
       obtain ⟨hs0, hs1, hs2⟩ := hSw
       go_simp
      try simp only [Act.put, z1, z2, z3, z4, z5, z6]
      refine ⟨by kernel_rfl, ?_⟩
      refine NoPanic.normal ?_
      go_wp2_with fail
      go_roundw
      case rel => exact ⟨n + 1 + n % 5, by omega, by go_num, HB4.out.trans (D9.out.bel.mono HB4.out.size)⟩
      case measure => simp [intOf]; omega
     ·go_simp
      have hd := F11.out.a3
      refine hK.out _ _ (HC.out _ hd.bel) (fun _ => ?_)
      clear hK
      try simp only [Act.put, z1, z2, z3, z4, z5, z6]
      obtain ⟨g3, hgg⟩ : ∃ z, y11.heap.size = z := ⟨_, rfl⟩
      obtain ⟨y14, huu⟩ : ∃ z, y11.alloc (.cells #[.string ⟨#[97]⟩, .string ⟨#[98]⟩, .string ⟨#[97]⟩] 9) = z := ⟨_, rfl⟩
      rw [hgg, huu] at hd ⊢
      have F14 := Lib.hid hd
      clear hd hgg huu
      refine tkI (i := 25) (v := .slice (some ⟨g3, 0, none⟩) q4 3) rfl ⟨by rfl, ?_⟩ (HC.out _ F14.out.bel) ?_
      ·intro ww hSw
       obtain ⟨hs0, hs1, hs2⟩ := hSw
       have h1 := HQ4.out; have h2 : (q4 : Int) ≤ 3 := (by omega); go_simp; try (intro h3; omega)
      try simp only [Act.put, z1, z2, z3, z4, z5, z6]
      refine wpAnyH_ready (rs := [21]) (by kernel_rfl) (by simp) ?_
      refine AllReadyH.cons rfl (fun k_ hK => ?_) (AllReadyH.nil)
      have q0 := F14.out.load _ rfl hr3
      go_simp
      clear q0
      refine hK.out _ _ (HC.out _ F14.out.bel) (fun _ => ?_)
      clear hK
      try simp only [Act.put, z1, z2, z3, z4, z5, z6]
      refine wpAnyH_ready (rs := [26]) (by kernel_rfl) (by simp) ?_
      refine AllReadyH.cons rfl (fun k_ hK => ?_) (AllReadyH.nil)
      go_simp
      refine (steps_any (HX.out _ F14.out.bel) F14.out.bel.size HL.out (F14.out.ir _ rfl) (F14.out.sr HQ4.out _ rfl) (Nat.le_refl _) (HTB.out _ F14.out.bel) _).mono ?_
      rintro e u9 ⟨rfl, hb⟩
      have D9 := Lib.hid (F14.out.step hb)
      clear hb
      refine hK.out _ _ (HC.out _ D9.out.bel) (fun _ => ?_)
      clear hK
      try simp only [Act.put, z1, z2, z3, z4, z5, z6]
      refine tkI (i := 27) (v := .bool false) rfl ⟨by rfl, ?_⟩ (HC.out _ D9.out.bel) ?_
      ·intro ww hSw
       obtain ⟨hs0, hs1, hs2⟩ := hSw
       go_simp
      try simp only [Act.put, z1, z2, z3, z4, z5, z6]
      refine tkI (i := 28) (v := .bool false) rfl ⟨by rfl, ?_⟩ (HC.out _ D9.out.bel) ?_
      ·intro ww hSw
       obtain ⟨hs0, hs1, hs2⟩ := hSw
       go_simp
      try simp only [Act.put, z1, z2, z3, z4, z5, z6]
      refine ⟨by kernel_rfl, ?_⟩
      refine NoPanic.normal ?_
      go_wp2_with fail
      go_roundw
      case rel => exact ⟨n + 1 + n % 5, by omega, by go_num, HB4.out.trans (D9.out.bel.mono HB4.out.size)⟩
      case measure => simp [intOf]; omega
    ·have q0 := F10.out.load _ rfl hr3
     go_simp
     clear q0
     refine hK.out _ _ (HC.out _ F10.out.bel) (fun _ => ?_)
     clear hK
     try simp only [Act.put, z1, z2, z3, z4, z5, z6]
     refine wpAnyH_ready (rs := [16, 22]) (by kernel_rfl) (by simp) ?_
     refine AllReadyH.cons rfl (fun k_ hK => ?_) (AllReadyH.cons rfl (fun k_ hK => ?_) (AllReadyH.nil))
     ·go_simp
      have hd := F10.out.a1
      refine hK.out _ _ (HC.out _ hd.bel) (fun _ => ?_)
      clear hK
      try simp only [Act.put, z1, z2, z3, z4, z5, z6]
      obtain ⟨g1, hgg⟩ : ∃ z, y10.heap.size = z := ⟨_, rfl⟩
      obtain ⟨y17, huu⟩ : ∃ z, y10.alloc (.cells #[.int .i64 ((n : Int) % 7), .int .i64 ((n : Int) / 7 % 7 - 1), .int .i64 ((n : Int) % 7)] 3) = z := ⟨_, rfl⟩
      rw [hgg, huu] at hd ⊢
      have F17 := Lib.hid hd
      clear hd hgg huu
      refine wpAnyH_ready (rs := [22]) (by kernel_rfl) (by simp) ?_
      refine AllReadyH.cons rfl (fun k_ hK => ?_) (AllReadyH.nil)
      go_simp
      have hd := F17.out.a3
      refine hK.out _ _ (HC.out _ hd.bel) (fun _ => ?_)
      clear hK
      try simp only [Act.put, z1, z2, z3, z4, z5, z6]
      obtain ⟨g3, hgg⟩ : ∃ z, y17.heap.size = z := ⟨_, rfl⟩
      obtain ⟨y18, huu⟩ : ∃ z, y17.alloc (.cells #[.string ⟨#[97]⟩, .string ⟨#[98]⟩, .string ⟨#[97]⟩] 9) = z := ⟨_, rfl⟩
      rw [hgg, huu] at hd ⊢
      have F18 := Lib.hid hd
      clear hd hgg huu
      refine tkI (i := 25) (v := .slice (some ⟨g3, 0, none⟩) q4 3) rfl ⟨by rfl, ?_⟩ (HC.out _ F18.out.bel) ?_
      ·intro ww hSw
       obtain ⟨hs0, hs1, hs2⟩ := hSw
       have h1 := HQ4.out; have h2 : (q4 : Int) ≤ 3 := (by omega); go_simp; try (intro h3; omega)
      try simp only [Act.put, z1, z2, z3, z4, z5, z6]
      refine wpAnyH_ready (rs := [26]) (by kernel_rfl) (by simp) ?_
      refine AllReadyH.cons rfl (fun k_ hK => ?_) (AllReadyH.nil)
      go_simp
      refine (steps_any (HX.out _ F18.out.bel) F18.out.bel.size HL.out (F18.out.ir _ rfl) (F18.out.sr HQ4.out _ rfl) (Nat.le_refl _) (HTB.out _ F18.out.bel) _).mono ?_
      rintro e u9 ⟨rfl, hb⟩
      have D9 := Lib.hid (F18.out.step hb)
      clear hb
      refine hK.out _ _ (HC.out _ D9.out.bel) (fun _ => ?_)
      clear hK
      try simp only [Act.put, z1, z2, z3, z4, z5, z6]
      refine tkI (i := 27) (v := .bool false) rfl ⟨by rfl, ?_⟩ (HC.out _ D9.out.bel) ?_
      ·intro ww hSw
       obtain ⟨hs0, hs1, hs2⟩ := hSw
       go_simp
      try simp only [Act.put, z1, z2, z3, z4, z5, z6]
      refine tkI (i := 28) (v := .bool false) rfl ⟨by rfl, ?_⟩ (HC.out _ D9.out.bel) ?_
      ·intro ww hSw
       obtain ⟨hs0, hs1, hs2⟩ := hSw
       go_simp
      try simp only [Act.put, z1, z2, z3, z4, z5, z6]
      refine ⟨by kernel_rfl, ?_⟩
      refine NoPanic.normal ?_
      go_wp2_with fail
      go_roundw
      case rel => exact ⟨n + 1 + n % 5, by omega, by go_num, HB4.out.trans (D9.out.bel.mono HB4.out.size)⟩
      case measure => simp [intOf]; omega
     ·go_simp
      have hd := F10.out.a3
      refine hK.out _ _ (HC.out _ hd.bel) (fun _ => ?_)
      clear hK
      try simp only [Act.put, z1, z2, z3, z4, z5, z6]
      obtain ⟨g3, hgg⟩ : ∃ z, y10.heap.size = z := ⟨_, rfl⟩
      obtain ⟨y19, huu⟩ : ∃ z, y10.alloc (.cells #[.string ⟨#[97]⟩, .string ⟨#[98]⟩, .string ⟨#[97]⟩] 9) = z := ⟨_, rfl⟩
      rw [hgg, huu] at hd ⊢
      have F19 := Lib.hid hd
      clear hd hgg huu
      refine tkI (i := 25) (v := .slice (some ⟨g3, 0, none⟩) q4 3) rfl ⟨by rfl, ?_⟩ (HC.out _ F19.out.bel) ?_
      ·intro ww hSw
       obtain ⟨hs0, hs1, hs2⟩ := hSw
       have h1 := HQ4.out; have h2 : (q4 : Int) ≤ 3 := (by omega); go_simp; try (intro h3; omega)
      try simp only [Act.put, z1, z2, z3, z4, z5, z6]
      refine wpAnyH_ready (rs := [16]) (by kernel_rfl) (by simp) ?_
      refine AllReadyH.cons rfl (fun k_ hK => ?_) (AllReadyH.nil)
      go_simp
      have hd := F19.out.a1
      refine hK.out _ _ (HC.out _ hd.bel) (fun _ => ?_)
      clear hK
      try simp only [Act.put, z1, z2, z3, z4, z5, z6]
      obtain ⟨g1, hgg⟩ : ∃ z, y19.heap.size = z := ⟨_, rfl⟩
      obtain ⟨y20, huu⟩ : ∃ z, y19.alloc (.cells #[.int .i64 ((n : Int) % 7), .int .i64 ((n : Int) / 7 % 7 - 1), .int .i64 ((n : Int) % 7)] 3) = z := ⟨_, rfl⟩
      rw [hgg, huu] at hd ⊢
      have F20 := Lib.hid hd
      clear hd hgg huu
      refine wpAnyH_ready (rs := [26]) (by kernel_rfl) (by simp) ?_
      refine AllReadyH.cons rfl (fun k_ hK => ?_) (AllReadyH.nil)
      go_simp
      refine (steps_any (HX.out _ F20.out.bel) F20.out.bel.size HL.out (F20.out.ir _ rfl) (F20.out.sr HQ4.out _ rfl) (Nat.le_refl _) (HTB.out _ F20.out.bel) _).mono ?_
      rintro e u9 ⟨rfl, hb⟩
      have D9 := Lib.hid (F20.out.step hb)
      clear hb
      refine hK.out _ _ (HC.out _ D9.out.bel) (fun _ => ?_)
      clear hK
      try simp only [Act.put, z1, z2, z3, z4, z5, z6]
      refine tkI (i := 27) (v := .bool false) rfl ⟨by rfl, ?_⟩ (HC.out _ D9.out.bel) ?_
      ·intro ww hSw
       obtain ⟨hs0, hs1, hs2⟩ := hSw
       go_simp
      try simp only [Act.put, z1, z2, z3, z4, z5, z6]
      refine tkI (i := 28) (v := .bool false) rfl ⟨by rfl, ?_⟩ (HC.out _ D9.out.bel) ?_
      ·intro ww hSw
       obtain ⟨hs0, hs1, hs2⟩ := hSw
       go_simp
      try simp only [Act.put, z1, z2, z3, z4, z5, z6]
      refine ⟨by kernel_rfl, ?_⟩
      refine NoPanic.normal ?_
      go_wp2_with fail
      go_roundw
      case rel => exact ⟨n + 1 + n % 5, by omega, by go_num, HB4.out.trans (D9.out.bel.mono HB4.out.size)⟩
      case measure => simp [intOf]; omega
    ·go_simp
     have hd := F10.out.a3
     refine hK.out _ _ (HC.out _ hd.bel) (fun _ => ?_)
     clear hK
     try simp only [Act.put, z1, z2, z3, z4, z5, z6]
     obtain ⟨g3, hgg⟩ : ∃ z, y10.heap.size = z := ⟨_, rfl⟩
     obtain ⟨y21, huu⟩ : ∃ z, y10.alloc (.cells #[.string ⟨#[97]⟩, .string ⟨#[98]⟩, .string ⟨#[97]⟩] 9) = z := ⟨_, rfl⟩
     rw [hgg, huu] at hd ⊢
     have F21 := Lib.hid hd
     clear hd hgg huu
     refine tkI (i := 25) (v := .slice (some ⟨g3, 0, none⟩) q4 3) rfl ⟨by rfl, ?_⟩ (HC.out _ F21.out.bel) ?_
     ·intro ww hSw
      obtain ⟨hs0, hs1, hs2⟩ := hSw
      have h1 := HQ4.out; have h2 : (q4 : Int) ≤ 3 := (by omega); go_simp; try (intro h3; omega)
     try simp only [Act.put, z1, z2, z3, z4, z5, z6]
     refine wpAnyH_ready (rs := [16, 21]) (by kernel_rfl) (by simp) ?_
     refine AllReadyH.cons rfl (fun k_ hK => ?_) (AllReadyH.cons rfl (fun k_ hK => ?_) (AllReadyH.nil))
     ·go_simp
      have hd := F21.out.a1
      refine hK.out _ _ (HC.out _ hd.bel) (fun _ => ?_)
      clear hK
      try simp only [Act.put, z1, z2, z3, z4, z5, z6]
      obtain ⟨g1, hgg⟩ : ∃ z, y21.heap.size = z := ⟨_, rfl⟩
      obtain ⟨y22, huu⟩ : ∃ z, y21.alloc (.cells #[.int .i64 ((n : Int) % 7), .int .i64 ((n : Int) / 7 % 7 - 1), .int .i64 ((n : Int) % 7)] 3) = z := ⟨_, rfl⟩
      rw [hgg, huu] at hd ⊢
      have F22 := Lib.hid hd
      clear hd hgg huu
      refine wpAnyH_ready (rs := [21]) (by kernel_rfl) (by simp) ?_
      refine AllReadyH.cons rfl (fun k_ hK => ?_) (AllReadyH.nil)
      have q0 := F22.out.load _ rfl hr3
      go_simp
      clear q0
      refine hK.out _ _ (HC.out _ F22.out.bel) (fun _ => ?_)
      clear hK
      try simp only [Act.put, z1, z2, z3, z4, z5, z6]
      refine wpAnyH_ready (rs := [26]) (by kernel_rfl) (by simp) ?_
      refine AllReadyH.cons rfl (fun k_ hK => ?_) (AllReadyH.nil)
      go_simp
      refine (steps_any (HX.out _ F22.out.bel) F22.out.bel.size HL.out (F22.out.ir _ rfl) (F22.out.sr HQ4.out _ rfl) (Nat.le_refl _) (HTB.out _ F22.out.bel) _).mono ?_
      rintro e u9 ⟨rfl, hb⟩
      have D9 := Lib.hid (F22.out.step hb)
      clear hb
      refine hK.out _ _ (HC.out _ D9.out.bel) (fun _ => ?_)
      clear hK
      try simp only [Act.put, z1, z2, z3, z4, z5, z6]
      refine tkI (i := 27) (v := .bool false) rfl ⟨by rfl, ?_⟩ (HC.out _ D9.out.bel) ?_
      ·intro ww hSw
       obtain ⟨hs0, hs1, hs2⟩ := hSw
       go_simp
      try simp only [Act.put, z1, z2, z3, z4, z5, z6]
      refine tkI (i := 28) (v := .bool false) rfl ⟨by rfl, ?_⟩ (HC.out _ D9.out.bel) ?_
      ·intro ww hSw
       obtain ⟨hs0, hs1, hs2⟩ := hSw
       go_simp
      try simp only [Act.put, z1, z2, z3, z4, z5, z6]
      refine ⟨by kernel_rfl, ?_⟩
      refine NoPanic.normal ?_
      go_wp2_with fail
      go_roundw
      case rel => exact ⟨n + 1 + n % 5, by omega, by go_num, HB4.out.trans (D9.out.bel.mono HB4.out.size)⟩
      case measure => simp [intOf]; omega
     ·have q0 := F21.out.load _ rfl hr3
      go_simp
      clear q0
      refine hK.out _ _ (HC.out _ F21.out.bel) (fun _ => ?_)
      clear hK
      try simp only [Act.put, z1, z2, z3, z4, z5, z6]
      refine wpAnyH_ready (rs := [16]) (by kernel_rfl) (by simp) ?_
      refine AllReadyH.cons rfl (fun k_ hK => ?_) (AllReadyH.nil)
      go_simp
      have hd := F21.out.a1
      refine hK.out _ _ (HC.out _ hd.bel) (fun _ => ?_)
      clear hK
      try simp only [Act.put, z1, z2, z3, z4, z5, z6]
      obtain ⟨g1, hgg⟩ : ∃ z, y21.heap.size = z := ⟨_, rfl⟩
      obtain ⟨y25, huu⟩ : ∃ z, y21.alloc (.cells #[.int .i64 ((n : Int) % 7), .int .i64 ((n : Int) / 7 % 7 - 1), .int .i64 ((n : Int) % 7)] 3) = z := ⟨_, rfl⟩
      rw [hgg, huu] at hd ⊢
      have F25 := Lib.hid hd
      clear hd hgg huu
      refine wpAnyH_ready (rs := [26]) (by kernel_rfl) (by simp) ?_
      refine AllReadyH.cons rfl (fun k_ hK => ?_) (AllReadyH.nil)
      go_simp
      refine (steps_any (HX.out _ F25.out.bel) F25.out.bel.size HL.out (F25.out.ir _ rfl) (F25.out.sr HQ4.out _ rfl) (Nat.le_refl _) (HTB.out _ F25.out.bel) _).mono ?_
      rintro e u9 ⟨rfl, hb⟩
      have D9 := Lib.hid (F25.out.step hb)
      clear hb
      refine hK.out _ _ (HC.out _ D9.out.bel) (fun _ => ?_)
      clear hK
      try simp only [Act.put, z1, z2, z3, z4, z5, z6]
      refine tkI (i := 27) (v := .bool false) rfl ⟨by rfl, ?_⟩ (HC.out _ D9.out.bel) ?_
      ·intro ww hSw
       obtain ⟨hs0, hs1, hs2⟩ := hSw
       go_simp
      try simp only [Act.put, z1, z2, z3, z4, z5, z6]
      refine tkI (i := 28) (v := .bool false) rfl ⟨by rfl, ?_⟩ (HC.out _ D9.out.bel) ?_
      ·intro ww hSw
       obtain ⟨hs0, hs1, hs2⟩ := hSw
       go_simp
      try simp only [Act.put, z1, z2, z3, z4, z5, z6]
      refine ⟨by kernel_rfl, ?_⟩
      refine NoPanic.normal ?_
      go_wp2_with fail
      go_roundw
      case rel => exact ⟨n + 1 + n % 5, by omega, by go_num, HB4.out.trans (D9.out.bel.mono HB4.out.size)⟩
      case measure => simp [intOf]; omega
   ·go_simp
    have hd := D1.out.a3
    refine hK.out _ _ (HC.out _ hd.bel) (fun _ => ?_)
    clear hK
    try simp only [Act.put, z1, z2, z3, z4, z5, z6]
    obtain ⟨g3, hgg⟩ : ∃ z, u1.heap.size = z := ⟨_, rfl⟩
    obtain ⟨y26, huu⟩ : ∃ z, u1.alloc (.cells #[.string ⟨#[97]⟩, .string ⟨#[98]⟩, .string ⟨#[97]⟩] 9) = z := ⟨_, rfl⟩
    rw [hgg, huu] at hd ⊢
    have F26 := Lib.hid hd
    clear hd hgg huu
    refine tkI (i := 25) (v := .slice (some ⟨g3, 0, none⟩) q4 3) rfl ⟨by rfl, ?_⟩ (HC.out _ F26.out.bel) ?_
    ·intro ww hSw
     obtain ⟨hs0, hs1, hs2⟩ := hSw
     have h1 := HQ4.out; have h2 : (q4 : Int) ≤ 3 := (by omega); go_simp; try (intro h3; omega)
    try simp only [Act.put, z1, z2, z3, z4, z5, z6]
    refine wpAnyH_ready (rs := [16, 17]) (by kernel_rfl) (by simp) ?_
    refine AllReadyH.cons rfl (fun k_ hK => ?_) (AllReadyH.cons rfl (fun k_ hK => ?_) (AllReadyH.nil))
    ·go_simp
     have hd := F26.out.a1
     refine hK.out _ _ (HC.out _ hd.bel) (fun _ => ?_)
     clear hK
     try simp only [Act.put, z1, z2, z3, z4, z5, z6]
     obtain ⟨g1, hgg⟩ : ∃ z, y26.heap.size = z := ⟨_, rfl⟩
     obtain ⟨y27, huu⟩ : ∃ z, y26.alloc (.cells #[.int .i64 ((n : Int) % 7), .int .i64 ((n : Int) / 7 % 7 - 1), .int .i64 ((n : Int) % 7)] 3) = z := ⟨_, rfl⟩
     rw [hgg, huu] at hd ⊢
     have F27 := Lib.hid hd
     clear hd hgg huu
     refine wpAnyH_ready (rs := [17]) (by kernel_rfl) (by simp) ?_
     refine AllReadyH.cons rfl (fun k_ hK => ?_) (AllReadyH.nil)
     go_simp
     have hd := F27.out.a2
     refine hK.out _ _ (HC.out _ hd.bel) (fun _ => ?_)
     clear hK
     try simp only [Act.put, z1, z2, z3, z4, z5, z6]
     obtain ⟨g2, hgg⟩ : ∃ z, y27.heap.size = z := ⟨_, rfl⟩
     obtain ⟨y28, huu⟩ : ∃ z, y27.alloc (.cells #[.string ⟨#[97]⟩, .string ⟨#[98]⟩, .string ⟨#[99]⟩] 9) = z := ⟨_, rfl⟩
     rw [hgg, huu] at hd ⊢
     have F28 := Lib.hid hd
     clear hd hgg huu
     refine tkI (i := 20) (v := .pointer (some ⟨g2, r3, none⟩)) rfl ⟨by rfl, ?_⟩ (HC.out _ F28.out.bel) ?_
     ·intro ww hSw
      obtain ⟨hs0, hs1, hs2⟩ := hSw
      have h1 : (r3 : Int) < 3 := (by omega); have h2 : ¬ (3 : Int) ≤ (r3 : Int) := (by omega); go_simp; try (intro h3; omega)
     try simp only [Act.put, z1, z2, z3, z4, z5, z6]
     refine wpAnyH_ready (rs := [21]) (by kernel_rfl) (by simp) ?_
     refine AllReadyH.cons rfl (fun k_ hK => ?_) (AllReadyH.nil)
     have q0 := F28.out.load _ rfl hr3
     go_simp
     clear q0
     refine hK.out _ _ (HC.out _ F28.out.bel) (fun _ => ?_)
     clear hK
     try simp only [Act.put, z1, z2, z3, z4, z5, z6]
     refine wpAnyH_ready (rs := [26]) (by kernel_rfl) (by simp) ?_
     refine AllReadyH.cons rfl (fun k_ hK => ?_) (AllReadyH.nil)
     go_simp
     refine (steps_any (HX.out _ F28.out.bel) F28.out.bel.size HL.out (F28.out.ir _ rfl) (F28.out.sr HQ4.out _ rfl) (Nat.le_refl _) (HTB.out _ F28.out.bel) _).mono ?_
     rintro e u9 ⟨rfl, hb⟩
     have D9 := Lib.hid (F28.out.step hb)
     clear hb
     refine hK.out _ _ (HC.out _ D9.out.bel) (fun _ => ?_)
     clear hK
     try simp only [Act.put, z1, z2, z3, z4, z5, z6]
     refine tkI (i := 27) (v := .bool false) rfl ⟨by rfl, ?_⟩ (HC.out _ D9.out.bel) ?_
     ·intro ww hSw
      obtain ⟨hs0, hs1, hs2⟩ := hSw
      go_simp
     try simp only [Act.put, z1, z2, z3, z4, z5, z6]
     refine tkI (i := 28) (v := .bool false) rfl ⟨by rfl, ?_⟩ (HC.out _ D9.out.bel) ?_
     ·intro ww hSw
      obtain ⟨hs0, hs1, hs2⟩ := hSw
      go_simp
     try simp only [Act.put, z1, z2, z3, z4, z5, z6]
     refine ⟨by kernel_rfl, ?_⟩
     refine NoPanic.normal ?_
     go_wp2_with fail
     go_roundw
     case rel => exact ⟨n + 1 + n % 5, by omega, by go_num, HB4.out.trans (D9.out.bel.mono HB4.out.size)⟩
     case measure => simp [intOf]; omega
    ·go_simp
     have hd := F26.out.a2
     refine hK.out _ _ (HC.out _ hd.bel) (fun _ => ?_)
     clear hK
     try simp only [Act.put, z1, z2, z3, z4, z5, z6]
     obtain ⟨g2, hgg⟩ : ∃ z, y26.heap.size = z := ⟨_, rfl⟩
     obtain ⟨y30, huu⟩ : ∃ z, y26.alloc (.cells #[.string ⟨#[97]⟩, .string ⟨#[98]⟩, .string ⟨#[99]⟩] 9) = z := ⟨_, rfl⟩
     rw [hgg, huu] at hd ⊢
     have F30 := Lib.hid hd
     clear hd hgg huu
     refine tkI (i := 20) (v := .pointer (some ⟨g2, r3, none⟩)) rfl ⟨by rfl, ?_⟩ (HC.out _ F30.out.bel) ?_
     ·intro ww hSw
      obtain ⟨hs0, hs1, hs2⟩ := hSw
      have h1 : (r3 : Int) < 3 := (by omega); have h2 : ¬ (3 : Int) ≤ (r3 : Int) := (by omega); go_simp; try (intro h3; omega)
     try simp only [Act.put, z1, z2, z3, z4, z5, z6]
     refine wpAnyH_ready (rs := [16, 21]) (by kernel_rfl) (by simp) ?_
     refine AllReadyH.cons rfl (fun k_ hK => ?_) (AllReadyH.cons rfl (fun k_ hK => ?_) (AllReadyH.nil))
     ·go_simp
      have hd := F30.out.a1
      refine hK.out _ _ (HC.out _ hd.bel) (fun _ => ?_)
      clear hK
      try simp only [Act.put, z1, z2, z3, z4, z5, z6]
      obtain ⟨g1, hgg⟩ : ∃ z, y30.heap.size = z := ⟨_, rfl⟩
      obtain ⟨y31, huu⟩ : ∃ z, y30.alloc (.cells #[.int .i64 ((n : Int) % 7), .int .i64 ((n : Int) / 7 % 7 - 1), .int .i64 ((n : Int) % 7)] 3) = z := ⟨_, rfl⟩
      rw [hgg, huu] at hd ⊢
      have F31 := Lib.hid hd
      clear hd hgg huu
      refine wpAnyH_ready (rs := [21]) (by kernel_rfl) (by simp) ?_
      refine AllReadyH.cons rfl (fun k_ hK => ?_) (AllReadyH.nil)
      have q0 := F31.out.load _ rfl hr3
      go_simp
      clear q0
      refine hK.out _ _ (HC.out _ F31.out.bel) (fun _ => ?_)
      clear hK
      try simp only [Act.put, z1, z2, z3, z4, z5, z6]
      refine wpAnyH_ready (rs := [26]) (by kernel_rfl) (by simp) ?_
      refine AllReadyH.cons rfl (fun k_ hK => ?_) (AllReadyH.nil)
      go_simp
      refine (steps_any (HX.out _ F31.out.bel) F31.out.bel.size HL.out (F31.out.ir _ rfl) (F31.out.sr HQ4.out _ rfl) (Nat.le_refl _) (HTB.out _ F31.out.bel) _).mono ?_
      rintro e u9 ⟨rfl, hb⟩
      have D9 := Lib.hid (F31.out.step hb)
      clear hb
      refine hK.out _ _ (HC.out _ D9.out.bel) (fun _ => ?_)
      clear hK
      try simp only [Act.put, z1, z2, z3, z4, z5, z6]
      refine tkI (i := 27) (v := .bool false) rfl ⟨by rfl, ?_⟩ (HC.out _ D9.out.bel) ?_
      ·intro ww hSw
       obtain ⟨hs0, hs1, hs2⟩ := hSw
       go_simp
      try simp only [Act.put, z1, z2, z3, z4, z5, z6]
      refine tkI (i := 28) (v := .bool false) rfl ⟨by rfl, ?_⟩ (HC.out _ D9.out.bel) ?_
      ·intro ww hSw
       obtain ⟨hs0, hs1, hs2⟩ := hSw
       go_simp
      try simp only [Act.put, z1, z2, z3, z4, z5, z6]
      refine ⟨by kernel_rfl, ?_⟩
      refine NoPanic.normal ?_
      go_wp2_with fail
      go_roundw
      case rel => exact ⟨n + 1 + n % 5, by omega, by go_num, HB4.out.trans (D9.out.bel.mono HB4.out.size)⟩
      case measure => simp [intOf]; omega
     ·have q0 := F30.out.load _ rfl hr3
      go_simp
      clear q0
      refine hK.out _ _ (HC.out _ F30.out.bel) (fun _ => ?_)
      clear hK
      try simp only [Act.put, z1, z2, z3, z4, z5, z6]
      refine wpAnyH_ready (rs := [16]) (by kernel_rfl) (by simp) ?_
      refine AllReadyH.cons rfl (fun k_ hK => ?_) (AllReadyH.nil)
      go_simp
      have hd := F30.out.a1
      refine hK.out _ _ (HC.out _ hd.bel) (fun _ => ?_)
      clear hK
      try simp only [Act.put, z1, z2, z3, z4, z5, z6]
      obtain ⟨g1, hgg⟩ : ∃ z, y30.heap.size = z := ⟨_, rfl⟩
      obtain ⟨y34, huu⟩ : ∃ z, y30.alloc (.cells #[.int .i64 ((n : Int) % 7), .int .i64 ((n : Int) / 7 % 7 - 1), .int .i64 ((n : Int) % 7)] 3) = z := ⟨_, rfl⟩
      rw [hgg, huu] at hd ⊢
      have F34 := Lib.hid hd
      clear hd hgg huu
      refine wpAnyH_ready (rs := [26]) (by kernel_rfl) (by simp) ?_
      refine AllReadyH.cons rfl (fun k_ hK => ?_) (AllReadyH.nil)
      go_simp
      refine (steps_any (HX.out _ F34.out.bel) F34.out.bel.size HL.out (F34.out.ir _ rfl) (F34.out.sr HQ4.out _ rfl) (Nat.le_refl _) (HTB.out _ F34.out.bel) _).mono ?_
      rintro e u9 ⟨rfl, hb⟩
      have D9 := Lib.hid (F34.out.step hb)
      clear hb
      refine hK.out _ _ (HC.out _ D9.out.bel) (fun _ => ?_)
      clear hK
      try simp only [Act.put, z1, z2, z3, z4, z5, z6]
      refine tkI (i := 27) (v := .bool false) rfl ⟨by rfl, ?_⟩ (HC.out _ D9.out.bel) ?_
      ·intro ww hSw
       obtain ⟨hs0, hs1, hs2⟩ := hSw
       go_simp
      try simp only [Act.put, z1, z2, z3, z4, z5, z6]
      refine tkI (i := 28) (v := .bool false) rfl ⟨by rfl, ?_⟩ (HC.out _ D9.out.bel) ?_
      ·intro ww hSw
       obtain ⟨hs0, hs1, hs2⟩ := hSw
       go_simp
      try simp only [Act.put, z1, z2, z3, z4, z5, z6]
      refine ⟨by kernel_rfl, ?_⟩
      refine NoPanic.normal ?_
      go_wp2_with fail
      go_roundw
      case rel => exact ⟨n + 1 + n % 5, by omega, by go_num, HB4.out.trans (D9.out.bel.mono HB4.out.size)⟩
      case measure => simp [intOf]; omega
  ·have hni : ¬ (n : Int) < 4096 := by omega
   go_upto_region 9 with (go_at_call 34; refine (of_any _ _ _ _ _).mono ?_; rintro e w1 ⟨rfl, hg⟩; have H1 := Lib.hid (HBR.out.trans (hg.below.mono HBR.out.size)); clear hg)
   obtain ⟨W4, hW4⟩ : ∃ z, w1.alloc (.cells #[.int .i64 3, .string ⟨#[]⟩, .slice none 0 0] 25) = z := ⟨_, rfl⟩
   have hb4 : Below w1.heap.size w1 W4 := by rw [← hW4]; exact (Below.refl _ w1).alloc (Nat.le_refl _) _
   have hc4 : W4.heap[w1.heap.size]? = some (.cells #[.int .i64 3, .string ⟨#[]⟩, .slice none 0 0] 25 (0, 0)) := by rw [← hW4]; exact at_push _ _
   obtain ⟨BW, hBW⟩ : ∃ z, w1.heap.size = z := ⟨_, rfl⟩
   rw [hW4, hBW]
   have HD0 := Lib.hid (show WD w W4 BW 0 (.slice none 0 0) from ⟨H1.out.trans (hb4.mono H1.out.size), by rw [← hBW]; exact H1.out.size, by rw [← hBW]; exact hc4, World.ownsRow_nil _ _ _ _⟩)
   clear hW4 hb4 hc4 hBW H1 HBR
   go_loopw [4] (fun u4 wr => ∃ (k : Nat) (kv : Value), k ≤ 24 ∧ u4 = .int .i64 k ∧ WD w wr BW k kv) (fun u4 _ => 25 - (intOf u4).toNat)
   case atStart => exact ⟨0, _, Nat.zero_le _, rfl, HD0.out⟩
   case round =>
    clear HD0
    obtain ⟨k, kv, hk, rfl, hD⟩ := hrel
    obtain ⟨W5, hW5⟩ : ∃ z, wr = z := ⟨_, rfl⟩
    rw [hW5] at hD ⊢
    have HD := Lib.hid hD
    clear hW5 hD
    by_cases hk24 : k < 24
    ·have hki : (k : Int) < 24 := by omega
     obtain ⟨Ak, ck, e⟩ := row_form HD.out.row
     subst e
     obtain ⟨r3, hr3e⟩ : ∃ r : Nat, k % 3 = r := ⟨_, rfl⟩
     have hr3 : r3 < 3 := by omega
     have hm3 : (k : Int).tmod 3 = (r3 : Int) := by rw [Int.tmod_eq_emod_of_nonneg (by omega)]; omega
     have HR3 := Lib.hid hr3e
     clear hr3e
     go_upto_region 11 with (fail)
     obtain ⟨u0, hu0⟩ : ∃ z, W5.drew = z := ⟨_, rfl⟩
     have K0 := Lib.hid (show WD w u0 BW k (.slice Ak k ck) by rw [← hu0]; exact HD.out.bel' (Below.refl _ _).drew)
     refine wp_region_noPanic ?_
     refine wp_region_held_drew (S := fun _ => True) (by kernel_rfl) trivial (fun hHeld => ?_)
     clear hHeld
     rw [hu0]
     clear hu0
     refine tkI (i := 0) (v := .pointer (some ⟨BW, 2, none⟩)) rfl ⟨by rfl, ?_⟩ trivial ?_
     ·intro ww hSw
      clear hSw
      go_simp
     try simp only [Act.put, z1, z2, z3, z4, z5, z6]
     refine tkI (i := 3) (v := .int .i64 k) rfl ⟨by rfl, ?_⟩ trivial ?_
     ·intro ww hSw
      clear hSw
      go_simp
     try simp only [Act.put, z1, z2, z3, z4, z5, z6]
     refine tkI (i := 4) (v := .int .i64 r3) rfl ⟨by rfl, ?_⟩ trivial ?_
     ·intro ww hSw
      clear hSw
      go_simp
     try simp only [Act.put, z1, z2, z3, z4, z5, z6]
     refine wpAnyH_ready (rs := [1, 2]) (by kernel_rfl) (by simp) ?_
     refine AllReadyH.cons rfl (fun k_ hK => ?_) (AllReadyH.cons rfl (fun k_ hK => ?_) (AllReadyH.nil))
     ·have q0 := K0.out.c2
      go_simp
      clear q0
      refine hK.out _ _ trivial (fun _ => ?_)
      clear hK
      try simp only [Act.put, z1, z2, z3, z4, z5, z6]
      refine wpAnyH_ready (rs := [2]) (by kernel_rfl) (by simp) ?_
      refine AllReadyH.cons rfl (fun k_ hK => ?_) (AllReadyH.nil)
      go_simp
      have hd := K0.out.bel' ((Below.refl _ u0).alloc (Nat.le_refl _) (.cells #[.string ⟨#[97]⟩, .string ⟨#[98]⟩, .string ⟨#[99]⟩] 9))
      have hp := at_push u0 (.cells #[.string ⟨#[97]⟩, .string ⟨#[98]⟩, .string ⟨#[99]⟩] 9)
      refine hK.out _ _ trivial (fun _ => ?_)
      clear hK
      try simp only [Act.put, z1, z2, z3, z4, z5, z6]
      obtain ⟨ga, hgg⟩ : ∃ z, u0.heap.size = z := ⟨_, rfl⟩
      obtain ⟨u1, huu⟩ : ∃ z, u0.alloc (.cells #[.string ⟨#[97]⟩, .string ⟨#[98]⟩, .string ⟨#[99]⟩] 9) = z := ⟨_, rfl⟩
      rw [huu] at hd hp ⊢
      rw [hgg] at hp ⊢
      have K1 := Lib.hid hd
      have P1 := Lib.hid hp
      clear hd hp hgg huu
      refine tkI (i := 5) (v := .pointer (some ⟨ga, r3, none⟩)) rfl ⟨by rfl, ?_⟩ trivial ?_
      ·intro ww hSw
       clear hSw
       have h1 : (r3 : Int) < 3 := (by omega); have h2 : ¬ (3 : Int) ≤ (r3 : Int) := (by omega); go_simp; try (intro h3; omega)
      try simp only [Act.put, z1, z2, z3, z4, z5, z6]
      refine wpAnyH_ready (rs := [6]) (by kernel_rfl) (by simp) ?_
      refine AllReadyH.cons rfl (fun k_ hK => ?_) (AllReadyH.nil)
      have q0 := abc_cell P1.out hr3
      go_simp
      clear q0
      refine hK.out _ _ trivial (fun _ => ?_)
      clear hK
      try simp only [Act.put, z1, z2, z3, z4, z5, z6]
      refine wpAnyH_ready (rs := [7]) (by kernel_rfl) (by simp) ?_
      refine AllReadyH.cons rfl (fun k_ hK => ?_) (AllReadyH.nil)
      go_simp
      refine (label_any _ _).mono ?_
      rintro e u2 ⟨rfl, hg⟩
      have K2 := Lib.hid (K1.out.bel' hg.below)
      clear hg
      refine hK.out _ _ trivial (fun _ => ?_)
      clear hK
      try simp only [Act.put, z1, z2, z3, z4, z5, z6]
      refine wpAnyH_ready (rs := [8]) (by kernel_rfl) (by simp) ?_
      refine AllReadyH.cons rfl (fun k_ hK => ?_) (AllReadyH.nil)
      go_simp
      have hd := K2.out.bel' ((Below.refl _ u2).alloc (Nat.le_refl _) (.cells #[.int .i64 1, .string (abc r3), .slice none 0 0] 25))
      have hp := at_push u2 (.cells #[.int .i64 1, .string (abc r3), .slice none 0 0] 25)
      refine hK.out _ _ trivial (fun _ => ?_)
      clear hK
      try simp only [Act.put, z1, z2, z3, z4, z5, z6]
      obtain ⟨gb, hgg⟩ : ∃ z, u2.heap.size = z := ⟨_, rfl⟩
      obtain ⟨u3, huu⟩ : ∃ z, u2.alloc (.cells #[.int .i64 1, .string (abc r3), .slice none 0 0] 25) = z := ⟨_, rfl⟩
      rw [huu] at hd hp ⊢
      rw [hgg] at hp ⊢
      have K3 := Lib.hid hd
      have P3 := Lib.hid hp
      clear hd hp hgg huu
      refine wpAnyH_ready (rs := [9]) (by kernel_rfl) (by simp) ?_
      refine AllReadyH.cons rfl (fun k_ hK => ?_) (AllReadyH.nil)
      refine step_append_own rfl (.tmp 49) (.tmp 56) rfl (base := BW + 1) Tryd.underlying23 hi25 hz25 hs25 hb25 rfl (by decide) (v := .slice Ak k ck) (by simp [Act.eval]) K3.out.row (ad := ⟨gb, 0, none⟩) (m := 1) (c := 1) (news := [.int .i64 1, .string (abc r3), .slice none 0 0]) (by simp [Act.eval]) rfl (row_cells8 P3.out) (by simp [Value.oneCell']) (by unfold maxLen; omega) (by omega) (Nat.le_of_lt_succ (Nat.succ_lt_succ K3.out.lt)) ?_
      intro v' u4 hown' hgrow' hat'
      have hm := K3.out.more HR3.out hown' hgrow'
      obtain ⟨A6, c6, e6⟩ := row_form hown'
      subst e6
      have K4 := Lib.hid hm
      clear hown' hgrow' hat' hm
      refine hK.out _ _ trivial (fun _ => ?_)
      clear hK
      try simp only [Act.put, z1, z2, z3, z4, z5, z6]
      refine tkI (i := 10) (v := .pointer (some ⟨BW, 2, none⟩)) rfl ⟨by rfl, ?_⟩ trivial ?_
      ·intro ww hSw
       clear hSw
       go_simp
      try simp only [Act.put, z1, z2, z3, z4, z5, z6]
      refine wpAnyH_ready (rs := [11]) (by kernel_rfl) (by simp) ?_
      refine AllReadyH.cons rfl (fun k_ hK => ?_) (AllReadyH.nil)
      have q0 := K4.out.1.1
      have q1 := K4.out.1.2
      go_simp
      clear q0 q1
      refine hK.out _ _ trivial (fun _ => ?_)
      clear hK
      try simp only [Act.put, z1, z2, z3, z4, z5, z6]
      refine ⟨by kernel_rfl, ?_⟩
      refine NoPanic.normal ?_
      obtain ⟨W6, hW6⟩ : ∃ z, u4.setCell ⟨BW, 2, none⟩ (.slice A6 (k + 1) c6) = z := ⟨_, rfl⟩
      have H6 := Lib.hid (show WD w W6 BW (k + 1) (.slice A6 (k + 1) c6) by rw [← hW6]; exact K4.out.2)
      try rw [hW6]
      clear hW6 K4 K3 K2 K1 K0 P1 P3 HD
      obtain ⟨c0, c1, c2⟩ := box3 H6.out.box
      have HT3 := Lib.hid (tells_any (x := wideX (k + 1)) H6.out.xv (Nat.le_refl _) (wide_lit _) (HTW.out _ H6.out.bel) (k : Int))
      have HS4 := Lib.hid (show ∀ W, Below W6.heap.size W6 W → Calls Tryd.prog 4 #[.agg #[.int .i64 3, .string ⟨#[]⟩, .slice A6 (k + 1) c6], .slice (some ⟨W.heap.size, 0, none⟩) 9 9, .string ⟨#[97]⟩, .slice (some ⟨W.heap.size + 1, 0, none⟩) 1 1] ((W.alloc (.cells #[.int .i64 0, .int .i64 k, .int .i64 24, .int .i64 25, .int .i64 99, .int .i64 (-1), .int .i64 1099511627776, .int .i64 (-9223372036854775808), .int .i64 9223372036854775807] 3)).alloc (.cells #[.string ⟨#[98]⟩] 9)) (fun e w' => e = .returned (.bool true) ∧ Below W.heap.size W w') from fun W hW => by
       have hb2 : Below W.heap.size W ((W.alloc (.cells #[.int .i64 0, .int .i64 k, .int .i64 24, .int .i64 25, .int .i64 99, .int .i64 (-1), .int .i64 1099511627776, .int .i64 (-9223372036854775808), .int .i64 9223372036854775807] 3)).alloc (.cells #[.string ⟨#[98]⟩] 9)) := ((Below.refl _ W).alloc (Nat.le_refl _) _).alloc (by simp) _
       have hd := (H6.out.bel' hW).bel' hb2
       have h3 : ((W.alloc (.cells #[.int .i64 0, .int .i64 k, .int .i64 24, .int .i64 25, .int .i64 99, .int .i64 (-1), .int .i64 1099511627776, .int .i64 (-9223372036854775808), .int .i64 9223372036854775807] 3)).alloc (.cells #[.string ⟨#[98]⟩] 9)).heap[W.heap.size]? = some (.cells #[.int .i64 0, .int .i64 k, .int .i64 24, .int .i64 25, .int .i64 99, .int .i64 (-1), .int .i64 1099511627776, .int .i64 (-9223372036854775808), .int .i64 9223372036854775807] 3 (0, 0)) := (Below.heap_alloc _ _ _ (by simp)).trans (at_push _ _)
       have h9 : ((W.alloc (.cells #[.int .i64 0, .int .i64 k, .int .i64 24, .int .i64 25, .int .i64 99, .int .i64 (-1), .int .i64 1099511627776, .int .i64 (-9223372036854775808), .int .i64 9223372036854775807] 3)).alloc (.cells #[.string ⟨#[98]⟩] 9)).heap[W.heap.size + 1]? = some (.cells #[.string ⟨#[98]⟩] 9 (0, 0)) := by
        have h := at_push (W.alloc (.cells #[.int .i64 0, .int .i64 k, .int .i64 24, .int .i64 25, .int .i64 99, .int .i64 (-1), .int .i64 1099511627776, .int .i64 (-9223372036854775808), .int .i64 9223372036854775807] 3)) (.cells #[.string ⟨#[98]⟩] 9)
        rwa [World.size_alloc] at h
       refine (steps_any (x := wideX (k + 1)) hd.xv (Nat.le_refl _) (wide_lit _) (lit_IR (l := [0, k, 24, 25, 99, -1, 1099511627776, -9223372036854775808, 9223372036854775807]) h3) (lit_SR (l := [⟨#[98]⟩]) h9) (by simp) (HTW.out _ hd.bel) ⟨#[97]⟩).mono ?_
       rintro e w' ⟨rfl, hb⟩
       exact ⟨rfl, hb2.trans (hb.mono hb2.size)⟩)
      go_wp2_with (first
       | (go_at_call 4; refine (HS4.out _ HY1.out).mono ?_; rintro e y2 ⟨rfl, hb⟩; have H8 := Lib.hid (H6.out.bel' (HY1.out.trans (hb.mono HY1.out.size))); clear hb)
       | (go_at_call 3; refine HT3.out.mono ?_; rintro e y1 ⟨rfl, hb⟩; have HY1 := Lib.hid hb; obtain ⟨c0, c1, c2⟩ := box3 (H6.out.bel' hb).box; clear hb))
      go_roundw
      case rel => exact ⟨k + 1, _, by omega, by go_num, H8.out⟩
      case measure => simp [intOf]; omega
     ·go_simp
      have hd := K0.out.bel' ((Below.refl _ u0).alloc (Nat.le_refl _) (.cells #[.string ⟨#[97]⟩, .string ⟨#[98]⟩, .string ⟨#[99]⟩] 9))
      have hp := at_push u0 (.cells #[.string ⟨#[97]⟩, .string ⟨#[98]⟩, .string ⟨#[99]⟩] 9)
      refine hK.out _ _ trivial (fun _ => ?_)
      clear hK
      try simp only [Act.put, z1, z2, z3, z4, z5, z6]
      obtain ⟨ga, hgg⟩ : ∃ z, u0.heap.size = z := ⟨_, rfl⟩
      obtain ⟨u1, huu⟩ : ∃ z, u0.alloc (.cells #[.string ⟨#[97]⟩, .string ⟨#[98]⟩, .string ⟨#[99]⟩] 9) = z := ⟨_, rfl⟩
      rw [huu] at hd hp ⊢
      rw [hgg] at hp ⊢
      have K1 := Lib.hid hd
      have P1 := Lib.hid hp
      clear hd hp hgg huu
      refine tkI (i := 5) (v := .pointer (some ⟨ga, r3, none⟩)) rfl ⟨by rfl, ?_⟩ trivial ?_
      ·intro ww hSw
       clear hSw
       have h1 : (r3 : Int) < 3 := (by omega); have h2 : ¬ (3 : Int) ≤ (r3 : Int) := (by omega); go_simp; try (intro h3; omega)
      try simp only [Act.put, z1, z2, z3, z4, z5, z6]
      refine wpAnyH_ready (rs := [1, 6]) (by kernel_rfl) (by simp) ?_
      refine AllReadyH.cons rfl (fun k_ hK => ?_) (AllReadyH.cons rfl (fun k_ hK => ?_) (AllReadyH.nil))
      ·have q0 := K1.out.c2
       go_simp
       clear q0
       refine hK.out _ _ trivial (fun _ => ?_)
       clear hK
       try simp only [Act.put, z1, z2, z3, z4, z5, z6]
       refine wpAnyH_ready (rs := [6]) (by kernel_rfl) (by simp) ?_
       refine AllReadyH.cons rfl (fun k_ hK => ?_) (AllReadyH.nil)
       have q0 := abc_cell P1.out hr3
       go_simp
       clear q0
       refine hK.out _ _ trivial (fun _ => ?_)
       clear hK
       try simp only [Act.put, z1, z2, z3, z4, z5, z6]
       refine wpAnyH_ready (rs := [7]) (by kernel_rfl) (by simp) ?_
       refine AllReadyH.cons rfl (fun k_ hK => ?_) (AllReadyH.nil)
       go_simp
       refine (label_any _ _).mono ?_
       rintro e u2 ⟨rfl, hg⟩
       have K2 := Lib.hid (K1.out.bel' hg.below)
       clear hg
       refine hK.out _ _ trivial (fun _ => ?_)
       clear hK
       try simp only [Act.put, z1, z2, z3, z4, z5, z6]
       refine wpAnyH_ready (rs := [8]) (by kernel_rfl) (by simp) ?_
       refine AllReadyH.cons rfl (fun k_ hK => ?_) (AllReadyH.nil)
       go_simp
       have hd := K2.out.bel' ((Below.refl _ u2).alloc (Nat.le_refl _) (.cells #[.int .i64 1, .string (abc r3), .slice none 0 0] 25))
       have hp := at_push u2 (.cells #[.int .i64 1, .string (abc r3), .slice none 0 0] 25)
       refine hK.out _ _ trivial (fun _ => ?_)
       clear hK
       try simp only [Act.put, z1, z2, z3, z4, z5, z6]
       obtain ⟨gb, hgg⟩ : ∃ z, u2.heap.size = z := ⟨_, rfl⟩
       obtain ⟨u3, huu⟩ : ∃ z, u2.alloc (.cells #[.int .i64 1, .string (abc r3), .slice none 0 0] 25) = z := ⟨_, rfl⟩
       rw [huu] at hd hp ⊢
       rw [hgg] at hp ⊢
       have K3 := Lib.hid hd
       have P3 := Lib.hid hp
       clear hd hp hgg huu
       refine wpAnyH_ready (rs := [9]) (by kernel_rfl) (by simp) ?_
       refine AllReadyH.cons rfl (fun k_ hK => ?_) (AllReadyH.nil)
       refine step_append_own rfl (.tmp 49) (.tmp 56) rfl (base := BW + 1) Tryd.underlying23 hi25 hz25 hs25 hb25 rfl (by decide) (v := .slice Ak k ck) (by simp [Act.eval]) K3.out.row (ad := ⟨gb, 0, none⟩) (m := 1) (c := 1) (news := [.int .i64 1, .string (abc r3), .slice none 0 0]) (by simp [Act.eval]) rfl (row_cells8 P3.out) (by simp [Value.oneCell']) (by unfold maxLen; omega) (by omega) (Nat.le_of_lt_succ (Nat.succ_lt_succ K3.out.lt)) ?_
       intro v' u4 hown' hgrow' hat'
       have hm := K3.out.more HR3.out hown' hgrow'
       obtain ⟨A6, c6, e6⟩ := row_form hown'
       subst e6
       have K4 := Lib.hid hm
       clear hown' hgrow' hat' hm
       refine hK.out _ _ trivial (fun _ => ?_)
       clear hK
       try simp only [Act.put, z1, z2, z3, z4, z5, z6]
       refine tkI (i := 10) (v := .pointer (some ⟨BW, 2, none⟩)) rfl ⟨by rfl, ?_⟩ trivial ?_
       ·intro ww hSw
        clear hSw
        go_simp
       try simp only [Act.put, z1, z2, z3, z4, z5, z6]
       refine wpAnyH_ready (rs := [11]) (by kernel_rfl) (by simp) ?_
       refine AllReadyH.cons rfl (fun k_ hK => ?_) (AllReadyH.nil)
       have q0 := K4.out.1.1
       have q1 := K4.out.1.2
       go_simp
       clear q0 q1
       refine hK.out _ _ trivial (fun _ => ?_)
       clear hK
       try simp only [Act.put, z1, z2, z3, z4, z5, z6]
       refine ⟨by kernel_rfl, ?_⟩
       refine NoPanic.normal ?_
       obtain ⟨W6, hW6⟩ : ∃ z, u4.setCell ⟨BW, 2, none⟩ (.slice A6 (k + 1) c6) = z := ⟨_, rfl⟩
       have H6 := Lib.hid (show WD w W6 BW (k + 1) (.slice A6 (k + 1) c6) by rw [← hW6]; exact K4.out.2)
       try rw [hW6]
       clear hW6 K4 K3 K2 K1 K0 P1 P3 HD
       obtain ⟨c0, c1, c2⟩ := box3 H6.out.box
       have HT3 := Lib.hid (tells_any (x := wideX (k + 1)) H6.out.xv (Nat.le_refl _) (wide_lit _) (HTW.out _ H6.out.bel) (k : Int))
       have HS4 := Lib.hid (show ∀ W, Below W6.heap.size W6 W → Calls Tryd.prog 4 #[.agg #[.int .i64 3, .string ⟨#[]⟩, .slice A6 (k + 1) c6], .slice (some ⟨W.heap.size, 0, none⟩) 9 9, .string ⟨#[97]⟩, .slice (some ⟨W.heap.size + 1, 0, none⟩) 1 1] ((W.alloc (.cells #[.int .i64 0, .int .i64 k, .int .i64 24, .int .i64 25, .int .i64 99, .int .i64 (-1), .int .i64 1099511627776, .int .i64 (-9223372036854775808), .int .i64 9223372036854775807] 3)).alloc (.cells #[.string ⟨#[98]⟩] 9)) (fun e w' => e = .returned (.bool true) ∧ Below W.heap.size W w') from fun W hW => by
        have hb2 : Below W.heap.size W ((W.alloc (.cells #[.int .i64 0, .int .i64 k, .int .i64 24, .int .i64 25, .int .i64 99, .int .i64 (-1), .int .i64 1099511627776, .int .i64 (-9223372036854775808), .int .i64 9223372036854775807] 3)).alloc (.cells #[.string ⟨#[98]⟩] 9)) := ((Below.refl _ W).alloc (Nat.le_refl _) _).alloc (by simp) _
        have hd := (H6.out.bel' hW).bel' hb2
        have h3 : ((W.alloc (.cells #[.int .i64 0, .int .i64 k, .int .i64 24, .int .i64 25, .int .i64 99, .int .i64 (-1), .int .i64 1099511627776, .int .i64 (-9223372036854775808), .int .i64 9223372036854775807] 3)).alloc (.cells #[.string ⟨#[98]⟩] 9)).heap[W.heap.size]? = some (.cells #[.int .i64 0, .int .i64 k, .int .i64 24, .int .i64 25, .int .i64 99, .int .i64 (-1), .int .i64 1099511627776, .int .i64 (-9223372036854775808), .int .i64 9223372036854775807] 3 (0, 0)) := (Below.heap_alloc _ _ _ (by simp)).trans (at_push _ _)
        have h9 : ((W.alloc (.cells #[.int .i64 0, .int .i64 k, .int .i64 24, .int .i64 25, .int .i64 99, .int .i64 (-1), .int .i64 1099511627776, .int .i64 (-9223372036854775808), .int .i64 9223372036854775807] 3)).alloc (.cells #[.string ⟨#[98]⟩] 9)).heap[W.heap.size + 1]? = some (.cells #[.string ⟨#[98]⟩] 9 (0, 0)) := by
         have h := at_push (W.alloc (.cells #[.int .i64 0, .int .i64 k, .int .i64 24, .int .i64 25, .int .i64 99, .int .i64 (-1), .int .i64 1099511627776, .int .i64 (-9223372036854775808), .int .i64 9223372036854775807] 3)) (.cells #[.string ⟨#[98]⟩] 9)
         rwa [World.size_alloc] at h
        refine (steps_any (x := wideX (k + 1)) hd.xv (Nat.le_refl _) (wide_lit _) (lit_IR (l := [0, k, 24, 25, 99, -1, 1099511627776, -9223372036854775808, 9223372036854775807]) h3) (lit_SR (l := [⟨#[98]⟩]) h9) (by simp) (HTW.out _ hd.bel) ⟨#[97]⟩).mono ?_
        rintro e w' ⟨rfl, hb⟩
        exact ⟨rfl, hb2.trans (hb.mono hb2.size)⟩)
       go_wp2_with (first
        | (go_at_call 4; refine (HS4.out _ HY1.out).mono ?_; rintro e y2 ⟨rfl, hb⟩; have H8 := Lib.hid (H6.out.bel' (HY1.out.trans (hb.mono HY1.out.size))); clear hb)
        | (go_at_call 3; refine HT3.out.mono ?_; rintro e y1 ⟨rfl, hb⟩; have HY1 := Lib.hid hb; obtain ⟨c0, c1, c2⟩ := box3 (H6.out.bel' hb).box; clear hb))
       go_roundw
       case rel => exact ⟨k + 1, _, by omega, by go_num, H8.out⟩
       case measure => simp [intOf]; omega
      ·have q0 := abc_cell P1.out hr3
       go_simp
       clear q0
       refine hK.out _ _ trivial (fun _ => ?_)
       clear hK
       try simp only [Act.put, z1, z2, z3, z4, z5, z6]
       refine wpAnyH_ready (rs := [1, 7]) (by kernel_rfl) (by simp) ?_
       refine AllReadyH.cons rfl (fun k_ hK => ?_) (AllReadyH.cons rfl (fun k_ hK => ?_) (AllReadyH.nil))
       ·have q0 := K1.out.c2
        go_simp
        clear q0
        refine hK.out _ _ trivial (fun _ => ?_)
        clear hK
        try simp only [Act.put, z1, z2, z3, z4, z5, z6]
        refine wpAnyH_ready (rs := [7]) (by kernel_rfl) (by simp) ?_
        refine AllReadyH.cons rfl (fun k_ hK => ?_) (AllReadyH.nil)
        go_simp
        refine (label_any _ _).mono ?_
        rintro e u2 ⟨rfl, hg⟩
        have K2 := Lib.hid (K1.out.bel' hg.below)
        clear hg
        refine hK.out _ _ trivial (fun _ => ?_)
        clear hK
        try simp only [Act.put, z1, z2, z3, z4, z5, z6]
        refine wpAnyH_ready (rs := [8]) (by kernel_rfl) (by simp) ?_
        refine AllReadyH.cons rfl (fun k_ hK => ?_) (AllReadyH.nil)
        go_simp
        have hd := K2.out.bel' ((Below.refl _ u2).alloc (Nat.le_refl _) (.cells #[.int .i64 1, .string (abc r3), .slice none 0 0] 25))
        have hp := at_push u2 (.cells #[.int .i64 1, .string (abc r3), .slice none 0 0] 25)
        refine hK.out _ _ trivial (fun _ => ?_)
        clear hK
        try simp only [Act.put, z1, z2, z3, z4, z5, z6]
        obtain ⟨gb, hgg⟩ : ∃ z, u2.heap.size = z := ⟨_, rfl⟩
        obtain ⟨u3, huu⟩ : ∃ z, u2.alloc (.cells #[.int .i64 1, .string (abc r3), .slice none 0 0] 25) = z := ⟨_, rfl⟩
        rw [huu] at hd hp ⊢
        rw [hgg] at hp ⊢
        have K3 := Lib.hid hd
        have P3 := Lib.hid hp
        clear hd hp hgg huu
        refine wpAnyH_ready (rs := [9]) (by kernel_rfl) (by simp) ?_
        refine AllReadyH.cons rfl (fun k_ hK => ?_) (AllReadyH.nil)
        refine step_append_own rfl (.tmp 49) (.tmp 56) rfl (base := BW + 1) Tryd.underlying23 hi25 hz25 hs25 hb25 rfl (by decide) (v := .slice Ak k ck) (by simp [Act.eval]) K3.out.row (ad := ⟨gb, 0, none⟩) (m := 1) (c := 1) (news := [.int .i64 1, .string (abc r3), .slice none 0 0]) (by simp [Act.eval]) rfl (row_cells8 P3.out) (by simp [Value.oneCell']) (by unfold maxLen; omega) (by omega) (Nat.le_of_lt_succ (Nat.succ_lt_succ K3.out.lt)) ?_
        intro v' u4 hown' hgrow' hat'
        have hm := K3.out.more HR3.out hown' hgrow'
        obtain ⟨A6, c6, e6⟩ := row_form hown'
        subst e6
        have K4 := Lib.hid hm
        clear hown' hgrow' hat' hm
        refine hK.out _ _ trivial (fun _ => ?_)
        clear hK
        try simp only [Act.put, z1, z2, z3, z4, z5, z6]
        refine tkI (i := 10) (v := .pointer (some ⟨BW, 2, none⟩)) rfl ⟨by rfl, ?_⟩ trivial ?_
        ·intro ww hSw
         clear hSw
         go_simp
        try simp only [Act.put, z1, z2, z3, z4, z5, z6]
        refine wpAnyH_ready (rs := [11]) (by kernel_rfl) (by simp) ?_
        refine AllReadyH.cons rfl (fun k_ hK => ?_) (AllReadyH.nil)
        have q0 := K4.out.1.1
        have q1 := K4.out.1.2
        go_simp
        clear q0 q1
        refine hK.out _ _ trivial (fun _ => ?_)
        clear hK
        try simp only [Act.put, z1, z2, z3, z4, z5, z6]
        refine ⟨by kernel_rfl, ?_⟩
        refine NoPanic.normal ?_
        obtain ⟨W6, hW6⟩ : ∃ z, u4.setCell ⟨BW, 2, none⟩ (.slice A6 (k + 1) c6) = z := ⟨_, rfl⟩
        have H6 := Lib.hid (show WD w W6 BW (k + 1) (.slice A6 (k + 1) c6) by rw [← hW6]; exact K4.out.2)
        try rw [hW6]
        clear hW6 K4 K3 K2 K1 K0 P1 P3 HD
        obtain ⟨c0, c1, c2⟩ := box3 H6.out.box
        have HT3 := Lib.hid (tells_any (x := wideX (k + 1)) H6.out.xv (Nat.le_refl _) (wide_lit _) (HTW.out _ H6.out.bel) (k : Int))
        have HS4 := Lib.hid (show ∀ W, Below W6.heap.size W6 W → Calls Tryd.prog 4 #[.agg #[.int .i64 3, .string ⟨#[]⟩, .slice A6 (k + 1) c6], .slice (some ⟨W.heap.size, 0, none⟩) 9 9, .string ⟨#[97]⟩, .slice (some ⟨W.heap.size + 1, 0, none⟩) 1 1] ((W.alloc (.cells #[.int .i64 0, .int .i64 k, .int .i64 24, .int .i64 25, .int .i64 99, .int .i64 (-1), .int .i64 1099511627776, .int .i64 (-9223372036854775808), .int .i64 9223372036854775807] 3)).alloc (.cells #[.string ⟨#[98]⟩] 9)) (fun e w' => e = .returned (.bool true) ∧ Below W.heap.size W w') from fun W hW => by
         have hb2 : Below W.heap.size W ((W.alloc (.cells #[.int .i64 0, .int .i64 k, .int .i64 24, .int .i64 25, .int .i64 99, .int .i64 (-1), .int .i64 1099511627776, .int .i64 (-9223372036854775808), .int .i64 9223372036854775807] 3)).alloc (.cells #[.string ⟨#[98]⟩] 9)) := ((Below.refl _ W).alloc (Nat.le_refl _) _).alloc (by simp) _
         have hd := (H6.out.bel' hW).bel' hb2
         have h3 : ((W.alloc (.cells #[.int .i64 0, .int .i64 k, .int .i64 24, .int .i64 25, .int .i64 99, .int .i64 (-1), .int .i64 1099511627776, .int .i64 (-9223372036854775808), .int .i64 9223372036854775807] 3)).alloc (.cells #[.string ⟨#[98]⟩] 9)).heap[W.heap.size]? = some (.cells #[.int .i64 0, .int .i64 k, .int .i64 24, .int .i64 25, .int .i64 99, .int .i64 (-1), .int .i64 1099511627776, .int .i64 (-9223372036854775808), .int .i64 9223372036854775807] 3 (0, 0)) := (Below.heap_alloc _ _ _ (by simp)).trans (at_push _ _)
         have h9 : ((W.alloc (.cells #[.int .i64 0, .int .i64 k, .int .i64 24, .int .i64 25, .int .i64 99, .int .i64 (-1), .int .i64 1099511627776, .int .i64 (-9223372036854775808), .int .i64 9223372036854775807] 3)).alloc (.cells #[.string ⟨#[98]⟩] 9)).heap[W.heap.size + 1]? = some (.cells #[.string ⟨#[98]⟩] 9 (0, 0)) := by
          have h := at_push (W.alloc (.cells #[.int .i64 0, .int .i64 k, .int .i64 24, .int .i64 25, .int .i64 99, .int .i64 (-1), .int .i64 1099511627776, .int .i64 (-9223372036854775808), .int .i64 9223372036854775807] 3)) (.cells #[.string ⟨#[98]⟩] 9)
          rwa [World.size_alloc] at h
         refine (steps_any (x := wideX (k + 1)) hd.xv (Nat.le_refl _) (wide_lit _) (lit_IR (l := [0, k, 24, 25, 99, -1, 1099511627776, -9223372036854775808, 9223372036854775807]) h3) (lit_SR (l := [⟨#[98]⟩]) h9) (by simp) (HTW.out _ hd.bel) ⟨#[97]⟩).mono ?_
         rintro e w' ⟨rfl, hb⟩
         exact ⟨rfl, hb2.trans (hb.mono hb2.size)⟩)
        go_wp2_with (first
         | (go_at_call 4; refine (HS4.out _ HY1.out).mono ?_; rintro e y2 ⟨rfl, hb⟩; have H8 := Lib.hid (H6.out.bel' (HY1.out.trans (hb.mono HY1.out.size))); clear hb)
         | (go_at_call 3; refine HT3.out.mono ?_; rintro e y1 ⟨rfl, hb⟩; have HY1 := Lib.hid hb; obtain ⟨c0, c1, c2⟩ := box3 (H6.out.bel' hb).box; clear hb))
        go_roundw
        case rel => exact ⟨k + 1, _, by omega, by go_num, H8.out⟩
        case measure => simp [intOf]; omega
       ·go_simp
        refine (label_any _ _).mono ?_
        rintro e u2 ⟨rfl, hg⟩
        have K2 := Lib.hid (K1.out.bel' hg.below)
        clear hg
        refine hK.out _ _ trivial (fun _ => ?_)
        clear hK
        try simp only [Act.put, z1, z2, z3, z4, z5, z6]
        refine wpAnyH_ready (rs := [1, 8]) (by kernel_rfl) (by simp) ?_
        refine AllReadyH.cons rfl (fun k_ hK => ?_) (AllReadyH.cons rfl (fun k_ hK => ?_) (AllReadyH.nil))
        ·have q0 := K2.out.c2
         go_simp
         clear q0
         refine hK.out _ _ trivial (fun _ => ?_)
         clear hK
         try simp only [Act.put, z1, z2, z3, z4, z5, z6]
         refine wpAnyH_ready (rs := [8]) (by kernel_rfl) (by simp) ?_
         refine AllReadyH.cons rfl (fun k_ hK => ?_) (AllReadyH.nil)
         go_simp
         have hd := K2.out.bel' ((Below.refl _ u2).alloc (Nat.le_refl _) (.cells #[.int .i64 1, .string (abc r3), .slice none 0 0] 25))
         have hp := at_push u2 (.cells #[.int .i64 1, .string (abc r3), .slice none 0 0] 25)
         refine hK.out _ _ trivial (fun _ => ?_)
         clear hK
         try simp only [Act.put, z1, z2, z3, z4, z5, z6]
         obtain ⟨gb, hgg⟩ : ∃ z, u2.heap.size = z := ⟨_, rfl⟩
         obtain ⟨u3, huu⟩ : ∃ z, u2.alloc (.cells #[.int .i64 1, .string (abc r3), .slice none 0 0] 25) = z := ⟨_, rfl⟩
         rw [huu] at hd hp ⊢
         rw [hgg] at hp ⊢
         have K3 := Lib.hid hd
         have P3 := Lib.hid hp
         clear hd hp hgg huu
         refine wpAnyH_ready (rs := [9]) (by kernel_rfl) (by simp) ?_
         refine AllReadyH.cons rfl (fun k_ hK => ?_) (AllReadyH.nil)
         refine step_append_own rfl (.tmp 49) (.tmp 56) rfl (base := BW + 1) Tryd.underlying23 hi25 hz25 hs25 hb25 rfl (by decide) (v := .slice Ak k ck) (by simp [Act.eval]) K3.out.row (ad := ⟨gb, 0, none⟩) (m := 1) (c := 1) (news := [.int .i64 1, .string (abc r3), .slice none 0 0]) (by simp [Act.eval]) rfl (row_cells8 P3.out) (by simp [Value.oneCell']) (by unfold maxLen; omega) (by omega) (Nat.le_of_lt_succ (Nat.succ_lt_succ K3.out.lt)) ?_
         intro v' u4 hown' hgrow' hat'
         have hm := K3.out.more HR3.out hown' hgrow'
         obtain ⟨A6, c6, e6⟩ := row_form hown'
         subst e6
         have K4 := Lib.hid hm
         clear hown' hgrow' hat' hm
         refine hK.out _ _ trivial (fun _ => ?_)
         clear hK
         try simp only [Act.put, z1, z2, z3, z4, z5, z6]
         refine tkI (i := 10) (v := .pointer (some ⟨BW, 2, none⟩)) rfl ⟨by rfl, ?_⟩ trivial ?_
         ·intro ww hSw
          clear hSw
          go_simp
         try simp only [Act.put, z1, z2, z3, z4, z5, z6]
         refine wpAnyH_ready (rs := [11]) (by kernel_rfl) (by simp) ?_
         refine AllReadyH.cons rfl (fun k_ hK => ?_) (AllReadyH.nil)
         have q0 := K4.out.1.1
         have q1 := K4.out.1.2
         go_simp
         clear q0 q1
         refine hK.out _ _ trivial (fun _ => ?_)
         clear hK
         try simp only [Act.put, z1, z2, z3, z4, z5, z6]
         refine ⟨by kernel_rfl, ?_⟩
         refine NoPanic.normal ?_
         obtain ⟨W6, hW6⟩ : ∃ z, u4.setCell ⟨BW, 2, none⟩ (.slice A6 (k + 1) c6) = z := ⟨_, rfl⟩
         have H6 := Lib.hid (show WD w W6 BW (k + 1) (.slice A6 (k + 1) c6) by rw [← hW6]; exact K4.out.2)
         try rw [hW6]
         clear hW6 K4 K3 K2 K1 K0 P1 P3 HD
         obtain ⟨c0, c1, c2⟩ := box3 H6.out.box
         have HT3 := Lib.hid (tells_any (x := wideX (k + 1)) H6.out.xv (Nat.le_refl _) (wide_lit _) (HTW.out _ H6.out.bel) (k : Int))
         have HS4 := Lib.hid (show ∀ W, Below W6.heap.size W6 W → Calls Tryd.prog 4 #[.agg #[.int .i64 3, .string ⟨#[]⟩, .slice A6 (k + 1) c6], .slice (some ⟨W.heap.size, 0, none⟩) 9 9, .string ⟨#[97]⟩, .slice (some ⟨W.heap.size + 1, 0, none⟩) 1 1] ((W.alloc (.cells #[.int .i64 0, .int .i64 k, .int .i64 24, .int .i64 25, .int .i64 99, .int .i64 (-1), .int .i64 1099511627776, .int .i64 (-9223372036854775808), .int .i64 9223372036854775807] 3)).alloc (.cells #[.string ⟨#[98]⟩] 9)) (fun e w' => e = .returned (.bool true) ∧ Below W.heap.size W w') from fun W hW => by
          have hb2 : Below W.heap.size W ((W.alloc (.cells #[.int .i64 0, .int .i64 k, .int .i64 24, .int .i64 25, .int .i64 99, .int .i64 (-1), .int .i64 1099511627776, .int .i64 (-9223372036854775808), .int .i64 9223372036854775807] 3)).alloc (.cells #[.string ⟨#[98]⟩] 9)) := ((Below.refl _ W).alloc (Nat.le_refl _) _).alloc (by simp) _
          have hd := (H6.out.bel' hW).bel' hb2
          have h3 : ((W.alloc (.cells #[.int .i64 0, .int .i64 k, .int .i64 24, .int .i64 25, .int .i64 99, .int .i64 (-1), .int .i64 1099511627776, .int .i64 (-9223372036854775808), .int .i64 9223372036854775807] 3)).alloc (.cells #[.string ⟨#[98]⟩] 9)).heap[W.heap.size]? = some (.cells #[.int .i64 0, .int .i64 k, .int .i64 24, .int .i64 25, .int .i64 99, .int .i64 (-1), .int .i64 1099511627776, .int .i64 (-9223372036854775808), .int .i64 9223372036854775807] 3 (0, 0)) := (Below.heap_alloc _ _ _ (by simp)).trans (at_push _ _)
          have h9 : ((W.alloc (.cells #[.int .i64 0, .int .i64 k, .int .i64 24, .int .i64 25, .int .i64 99, .int .i64 (-1), .int .i64 1099511627776, .int .i64 (-9223372036854775808), .int .i64 9223372036854775807] 3)).alloc (.cells #[.string ⟨#[98]⟩] 9)).heap[W.heap.size + 1]? = some (.cells #[.string ⟨#[98]⟩] 9 (0, 0)) := by
           have h := at_push (W.alloc (.cells #[.int .i64 0, .int .i64 k, .int .i64 24, .int .i64 25, .int .i64 99, .int .i64 (-1), .int .i64 1099511627776, .int .i64 (-9223372036854775808), .int .i64 9223372036854775807] 3)) (.cells #[.string ⟨#[98]⟩] 9)
           rwa [World.size_alloc] at h
          refine (steps_any (x := wideX (k + 1)) hd.xv (Nat.le_refl _) (wide_lit _) (lit_IR (l := [0, k, 24, 25, 99, -1, 1099511627776, -9223372036854775808, 9223372036854775807]) h3) (lit_SR (l := [⟨#[98]⟩]) h9) (by simp) (HTW.out _ hd.bel) ⟨#[97]⟩).mono ?_
          rintro e w' ⟨rfl, hb⟩
          exact ⟨rfl, hb2.trans (hb.mono hb2.size)⟩)
         go_wp2_with (first
          | (go_at_call 4; refine (HS4.out _ HY1.out).mono ?_; rintro e y2 ⟨rfl, hb⟩; have H8 := Lib.hid (H6.out.bel' (HY1.out.trans (hb.mono HY1.out.size))); clear hb)
          | (go_at_call 3; refine HT3.out.mono ?_; rintro e y1 ⟨rfl, hb⟩; have HY1 := Lib.hid hb; obtain ⟨c0, c1, c2⟩ := box3 (H6.out.bel' hb).box; clear hb))
         go_roundw
         case rel => exact ⟨k + 1, _, by omega, by go_num, H8.out⟩
         case measure => simp [intOf]; omega
        ·go_simp
         have hd := K2.out.bel' ((Below.refl _ u2).alloc (Nat.le_refl _) (.cells #[.int .i64 1, .string (abc r3), .slice none 0 0] 25))
         have hp := at_push u2 (.cells #[.int .i64 1, .string (abc r3), .slice none 0 0] 25)
         refine hK.out _ _ trivial (fun _ => ?_)
         clear hK
         try simp only [Act.put, z1, z2, z3, z4, z5, z6]
         obtain ⟨gb, hgg⟩ : ∃ z, u2.heap.size = z := ⟨_, rfl⟩
         obtain ⟨u3, huu⟩ : ∃ z, u2.alloc (.cells #[.int .i64 1, .string (abc r3), .slice none 0 0] 25) = z := ⟨_, rfl⟩
         rw [huu] at hd hp ⊢
         rw [hgg] at hp ⊢
         have K3 := Lib.hid hd
         have P3 := Lib.hid hp
         clear hd hp hgg huu
         refine wpAnyH_ready (rs := [1]) (by kernel_rfl) (by simp) ?_
         refine AllReadyH.cons rfl (fun k_ hK => ?_) (AllReadyH.nil)
         have q0 := K3.out.c2
         go_simp
         clear q0
         refine hK.out _ _ trivial (fun _ => ?_)
         clear hK
         try simp only [Act.put, z1, z2, z3, z4, z5, z6]
         refine wpAnyH_ready (rs := [9]) (by kernel_rfl) (by simp) ?_
         refine AllReadyH.cons rfl (fun k_ hK => ?_) (AllReadyH.nil)
         refine step_append_own rfl (.tmp 49) (.tmp 56) rfl (base := BW + 1) Tryd.underlying23 hi25 hz25 hs25 hb25 rfl (by decide) (v := .slice Ak k ck) (by simp [Act.eval]) K3.out.row (ad := ⟨gb, 0, none⟩) (m := 1) (c := 1) (news := [.int .i64 1, .string (abc r3), .slice none 0 0]) (by simp [Act.eval]) rfl (row_cells8 P3.out) (by simp [Value.oneCell']) (by unfold maxLen; omega) (by omega) (Nat.le_of_lt_succ (Nat.succ_lt_succ K3.out.lt)) ?_
         intro v' u4 hown' hgrow' hat'
         have hm := K3.out.more HR3.out hown' hgrow'
         obtain ⟨A6, c6, e6⟩ := row_form hown'
         subst e6
         have K4 := Lib.hid hm
         clear hown' hgrow' hat' hm
         refine hK.out _ _ trivial (fun _ => ?_)
         clear hK
         try simp only [Act.put, z1, z2, z3, z4, z5, z6]
         refine tkI (i := 10) (v := .pointer (some ⟨BW, 2, none⟩)) rfl ⟨by rfl, ?_⟩ trivial ?_
         ·intro ww hSw
          clear hSw
          go_simp
         try simp only [Act.put, z1, z2, z3, z4, z5, z6]
         refine wpAnyH_ready (rs := [11]) (by kernel_rfl) (by simp) ?_
         refine AllReadyH.cons rfl (fun k_ hK => ?_) (AllReadyH.nil)
         have q0 := K4.out.1.1
         have q1 := K4.out.1.2
         go_simp
         clear q0 q1
         refine hK.out _ _ trivial (fun _ => ?_)
         clear hK
         try simp only [Act.put, z1, z2, z3, z4, z5, z6]
         refine ⟨by kernel_rfl, ?_⟩
         refine NoPanic.normal ?_
         obtain ⟨W6, hW6⟩ : ∃ z, u4.setCell ⟨BW, 2, none⟩ (.slice A6 (k + 1) c6) = z := ⟨_, rfl⟩
         have H6 := Lib.hid (show WD w W6 BW (k + 1) (.slice A6 (k + 1) c6) by rw [← hW6]; exact K4.out.2)
         try rw [hW6]
         clear hW6 K4 K3 K2 K1 K0 P1 P3 HD
         obtain ⟨c0, c1, c2⟩ := box3 H6.out.box
         have HT3 := Lib.hid (tells_any (x := wideX (k + 1)) H6.out.xv (Nat.le_refl _) (wide_lit _) (HTW.out _ H6.out.bel) (k : Int))
         have HS4 := Lib.hid (show ∀ W, Below W6.heap.size W6 W → Calls Tryd.prog 4 #[.agg #[.int .i64 3, .string ⟨#[]⟩, .slice A6 (k + 1) c6], .slice (some ⟨W.heap.size, 0, none⟩) 9 9, .string ⟨#[97]⟩, .slice (some ⟨W.heap.size + 1, 0, none⟩) 1 1] ((W.alloc (.cells #[.int .i64 0, .int .i64 k, .int .i64 24, .int .i64 25, .int .i64 99, .int .i64 (-1), .int .i64 1099511627776, .int .i64 (-9223372036854775808), .int .i64 9223372036854775807] 3)).alloc (.cells #[.string ⟨#[98]⟩] 9)) (fun e w' => e = .returned (.bool true) ∧ Below W.heap.size W w') from fun W hW => by
          have hb2 : Below W.heap.size W ((W.alloc (.cells #[.int .i64 0, .int .i64 k, .int .i64 24, .int .i64 25, .int .i64 99, .int .i64 (-1), .int .i64 1099511627776, .int .i64 (-9223372036854775808), .int .i64 9223372036854775807] 3)).alloc (.cells #[.string ⟨#[98]⟩] 9)) := ((Below.refl _ W).alloc (Nat.le_refl _) _).alloc (by simp) _
          have hd := (H6.out.bel' hW).bel' hb2
          have h3 : ((W.alloc (.cells #[.int .i64 0, .int .i64 k, .int .i64 24, .int .i64 25, .int .i64 99, .int .i64 (-1), .int .i64 1099511627776, .int .i64 (-9223372036854775808), .int .i64 9223372036854775807] 3)).alloc (.cells #[.string ⟨#[98]⟩] 9)).heap[W.heap.size]? = some (.cells #[.int .i64 0, .int .i64 k, .int .i64 24, .int .i64 25, .int .i64 99, .int .i64 (-1), .int .i64 1099511627776, .int .i64 (-9223372036854775808), .int .i64 9223372036854775807] 3 (0, 0)) := (Below.heap_alloc _ _ _ (by simp)).trans (at_push _ _)
          have h9 : ((W.alloc (.cells #[.int .i64 0, .int .i64 k, .int .i64 24, .int .i64 25, .int .i64 99, .int .i64 (-1), .int .i64 1099511627776, .int .i64 (-9223372036854775808), .int .i64 9223372036854775807] 3)).alloc (.cells #[.string ⟨#[98]⟩] 9)).heap[W.heap.size + 1]? = some (.cells #[.string ⟨#[98]⟩] 9 (0, 0)) := by
           have h := at_push (W.alloc (.cells #[.int .i64 0, .int .i64 k, .int .i64 24, .int .i64 25, .int .i64 99, .int .i64 (-1), .int .i64 1099511627776, .int .i64 (-9223372036854775808), .int .i64 9223372036854775807] 3)) (.cells #[.string ⟨#[98]⟩] 9)
           rwa [World.size_alloc] at h
          refine (steps_any (x := wideX (k + 1)) hd.xv (Nat.le_refl _) (wide_lit _) (lit_IR (l := [0, k, 24, 25, 99, -1, 1099511627776, -9223372036854775808, 9223372036854775807]) h3) (lit_SR (l := [⟨#[98]⟩]) h9) (by simp) (HTW.out _ hd.bel) ⟨#[97]⟩).mono ?_
          rintro e w' ⟨rfl, hb⟩
          exact ⟨rfl, hb2.trans (hb.mono hb2.size)⟩)
         go_wp2_with (first
          | (go_at_call 4; refine (HS4.out _ HY1.out).mono ?_; rintro e y2 ⟨rfl, hb⟩; have H8 := Lib.hid (H6.out.bel' (HY1.out.trans (hb.mono HY1.out.size))); clear hb)
          | (go_at_call 3; refine HT3.out.mono ?_; rintro e y1 ⟨rfl, hb⟩; have HY1 := Lib.hid hb; obtain ⟨c0, c1, c2⟩ := box3 (H6.out.bel' hb).box; clear hb))
         go_roundw
         case rel => exact ⟨k + 1, _, by omega, by go_num, H8.out⟩
         case measure => simp [intOf]; omega
    ·have hki : ¬ (k : Int) < 24 := by omega
     have H9 := Lib.hid HD.out.bel
     go_wp2_with (first
      | (go_at_call 9; refine (awake_any (HTW.out _ N2.out)).mono ?_; rintro e y3 ⟨rfl, hb⟩; have N3 := Lib.hid (N2.out.trans (hb.mono N2.out.size)); clear hb)
      | (go_at_call 3; refine (tells_any (x := X.mk 0 ⟨#[]⟩ []) (M := 0) ⟨_, rfl, XR.nil _ _ _ _⟩ (Nat.zero_le _) zero_lit (HTW.out _ N1.out) 0).mono ?_; rintro e y2 ⟨rfl, hb⟩; have N2 := Lib.hid (N1.out.trans (hb.mono N1.out.size)); clear hb)
      | (go_at_call 36; refine (none36_any _).mono ?_; rintro e y1 ⟨rfl, hb⟩; have N1 := Lib.hid (H9.out.trans (hb.mono H9.out.size)); clear hb))
     go_ret
     exact ⟨rfl, N3.out⟩
end Go.Proofs.YtnccgaanfjaimaaDoor
