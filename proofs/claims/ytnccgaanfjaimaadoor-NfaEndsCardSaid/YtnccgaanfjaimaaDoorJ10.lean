/- Texts ZK, PA, PB, PC0, PE, QA, QB, RF, one behind the other. -/
import Derived.Test.YtnccgaanfjaimaaDoorJ4
import Derived.Test.YtnccgaanfjaimaaDoorJ5
import Derived.Test.YtnccgaanfjaimaaDoorJ6
import Derived.Test.YtnccgaanfjaimaaDoorJ8
import Derived.Test.YtnccgaanfjaimaaDoorJ9
import Derived.Lib.QuietBelow
set_option linter.unusedSimpArgs false
set_option linter.unusedVariables false
namespace Go.Proofs.YtnccgaanfjaimaaDoor
open Go.ChangeShapes Go.WideShapes Go.ChangeAt Go.RowKit
set_option linter.unusedVariables false
set_option linter.unusedSimpArgs false

def NewR (x : X) (w : World) (e : Ending) (w' : World) : Prop := Below w.heap.size w w' ∧ if x.right = true then ∃ N, e = .returned (.tuple #[.pointer (some ⟨N, 0, none⟩), .int .i64 0]) ∧ NfX w' w.heap.size N x else e = .returned (.tuple #[.pointer none, .int .i64 2])
theorem nfC_last (sv lv : Value) (fo : Nat → Nat) (la la' : Nat) (em : Bool) : (nfC sv lv fo la em).set 27 (.int .u32 (la' : Int)) = nfC sv lv fo la' em := by
 apply List.ext_getElem?
 intro i
 by_cases hi : i = 27
 ·subst hi
  rw [List.getElem?_set_self (by rw [nfC_len]; omega)]
  rfl
 ·rw [List.getElem?_set_ne (by omega)]
  unfold nfC
  rcases i with _ | _ | i
  ·rfl
  ·rfl
  ·rw [List.getElem?_cons_succ, List.getElem?_cons_succ, List.getElem?_cons_succ, List.getElem?_cons_succ]
   by_cases h25 : i < 25
   ·rw [List.getElem?_append_left (by simpa using h25), List.getElem?_append_left (by simpa using h25)]
   ·rw [List.getElem?_append_right (by simpa using h25), List.getElem?_append_right (by simpa using h25)]
    simp only [List.length_map, List.length_range]
    obtain ⟨j, rfl⟩ : ∃ j, i = 25 + (j + 1) := ⟨i - 26, by omega⟩
    rw [show 25 + (j + 1) - 25 = j + 1 by omega, List.getElem?_cons_succ, List.getElem?_cons_succ]
theorem NfB.setLast {w : World} {B N : Nat} {sv lv : Value} {s : NS} {la : Nat} {em : Bool} (h : NfB w B N sv lv s la em) (la' : Nat) : NfB (w.setCell ⟨N, 27, none⟩ (.int .u32 (la' : Int))) B N sv lv s la' em :=
 ⟨by rw [heap_set h.blk, nfC_last], ownsRow_setCell_other h.row (a := ⟨N, 27, none⟩) (row_ne h.row h.blk (by decide)) _, h.low, h.pos⟩

theorem nfC_zero (sv lv : Value) (em : Bool) : nfC sv lv (fun _ => 0) 0 em = [sv, lv, .int .u32 0, .int .u32 0, .int .u32 0, .int .u32 0, .int .u32 0, .int .u32 0, .int .u32 0, .int .u32 0, .int .u32 0, .int .u32 0, .int .u32 0, .int .u32 0, .int .u32 0, .int .u32 0, .int .u32 0, .int .u32 0, .int .u32 0, .int .u32 0, .int .u32 0, .int .u32 0, .int .u32 0, .int .u32 0, .int .u32 0, .int .u32 0, .int .u32 0, .int .u32 0, .bool em] := rfl

set_option maxRecDepth 100000 in
set_option maxHeartbeats 8000000 in
theorem new_any {M : Nat} {w : World} {v : Value} {x : X} (hx : XV M w v x) (hM : M ≤ w.heap.size) (hT : Tb w) (hR : ∀ W, Below w.heap.size w W → Calls Tryd.prog 37 #[v] W fun e w1 => e = .returned (.bool x.right) ∧ Below W.heap.size W w1) :
  Calls Tryd.prog 11 #[v] w (NewR x w) := by
 obtain ⟨kv, rfl, hr⟩ := hx
 obtain ⟨A, c, rfl⟩ := hr.form
 have hb1 : Below w.heap.size w (w.alloc (.cells #[.int .i64 x.kind, .string x.lab, .slice A x.kids.length c] 25)) := (Below.refl _ w).alloc (Nat.le_refl _) _
 have hx0 := at_push w (.cells #[.int .i64 x.kind, .string x.lab, .slice A x.kids.length c] 25)
 have HR := Lib.hid (hR _ hb1)
 have HB1 := Lib.hid hb1
 unfold NewR
 cases hrt : x.right with
 | false =>
  rw [hrt] at HR
  have c0 := cell_of_row _ _ 0 _ 25 (0, 0) hx0
  have c1 := cell_of_row _ _ 1 _ 25 (0, 0) hx0
  have c2 := cell_of_row _ _ 2 _ 25 (0, 0) hx0
  simp only [List.getElem?_toArray, List.getElem?_cons_zero, List.getElem?_cons_succ] at c0 c1 c2
  clear hrt hx0 hb1 hR hr hT
  go_enter Tryd.func11, Tryd.ntmps11
  go_wp2_with (go_at_call 37; refine HR.out.mono ?_; rintro e w1 ⟨rfl, hb⟩; have HB2 := Lib.hid (HB1.out.trans (hb.mono HB1.out.size)); clear hb)
  go_ret2
  exact ⟨HB2.out, by simp⟩
 | true =>
  rw [hrt] at HR
  obtain ⟨hg, hs⟩ := right_good hrt
  have HXV := Lib.hid (show XV M w (.agg #[.int .i64 x.kind, .string x.lab, .slice A x.kids.length c]) x from ⟨_, rfl, hr⟩)
  have HG := Lib.hid (And.intro hg hs)
  have HT := Lib.hid hT
  have c0 := cell_of_row _ _ 0 _ 25 (0, 0) hx0
  have c1 := cell_of_row _ _ 1 _ 25 (0, 0) hx0
  have c2 := cell_of_row _ _ 2 _ 25 (0, 0) hx0
  simp only [List.getElem?_toArray, List.getElem?_cons_zero, List.getElem?_cons_succ] at c0 c1 c2
  have HX0 := Lib.hid hx0
  obtain ⟨n, hn⟩ : ∃ y, x.kids.length = y := ⟨_, rfl⟩
  obtain ⟨kk, hkk⟩ : ∃ y, x.kind = y := ⟨_, rfl⟩
  obtain ⟨kl, hkl⟩ : ∃ y, x.lab = y := ⟨_, rfl⟩
  have hrt' := hrt
  rw [hn, hkk, hkl] at HXV HX0 HB1 HR c0 c1 c2 ⊢
  clear hrt hx0 hb1 hR hr hT hn hkk hkl hg hs
  go_enter Tryd.func11, Tryd.ntmps11
  go_upto_region 3 with (go_at_call 37; refine HR.out.mono ?_; rintro e w1 ⟨rfl, hb⟩; have HW1 := Lib.hid hb; clear hb)
  have hb2 := HB1.out.trans (HW1.out.mono HB1.out.size)
  have hx1 := (HW1.out.block _ (Array.getElem?_eq_some_iff.1 HX0.out).1).trans HX0.out
  have hb3 : Below w1.heap.size w1 (w1.alloc (.cells #[.string ⟨#[]⟩] 9)) := (Below.refl _ w1).alloc (Nat.le_refl _) _
  have hx2 := (hb3.block _ (Array.getElem?_eq_some_iff.1 hx1).1).trans hx1
  have hrow := at_push w1 (.cells #[.string ⟨#[]⟩] 9)
  have hb4 := hb2.trans (hb3.mono hb2.size)
  have c0 := cell_of_row _ _ 0 _ 25 (0, 0) hx2
  have c1 := cell_of_row _ _ 1 _ 25 (0, 0) hx2
  have c2 := cell_of_row _ _ 2 _ 25 (0, 0) hx2
  simp only [List.getElem?_toArray, List.getElem?_cons_zero, List.getElem?_cons_succ] at c0 c1 c2
  have hemp : Calls Tryd.prog 40 #[.agg #[.int .i64 kk, .string kl, .slice A n c]] (w1.alloc (.cells #[.string ⟨#[]⟩] 9)) fun e w' => e = .returned (.bool x.emp) ∧ Below (w1.alloc (.cells #[.string ⟨#[]⟩] 9)).heap.size (w1.alloc (.cells #[.string ⟨#[]⟩] 9)) w' := by
   have h := empty18_any (HXV.out.bel (hb4.mono hM)) (Nat.le_trans hM hb4.size) (by have := HG.out.2; omega) (good_lit HG.out.1)
   rw [hrt', Bool.true_and] at h
   exact h
  have HEMP := Lib.hid hemp
  have F1 := Lib.hid (And.intro hb4 (And.intro hx2 hrow))
  clear hb2 hx1 hb3 hx2 hrow hb4 hemp
  go_upto_region 5 with (go_at_call 40; refine HEMP.out.mono ?_; rintro e w2 ⟨rfl, hb⟩; have HW2 := Lib.hid hb; clear hb)
  obtain ⟨hb4, hx2, hrow⟩ := F1.out
  have hb5 := hb4.trans (HW2.out.mono hb4.size)
  have hx3 := (HW2.out.block _ (Array.getElem?_eq_some_iff.1 hx2).1).trans hx2
  have hrow3 := (HW2.out.block _ (Array.getElem?_eq_some_iff.1 hrow).1).trans hrow
  rw [← nfC_zero (.pointer (some ⟨w2.heap.size, 0, none⟩)) (.slice (some ⟨w1.heap.size, 0, none⟩) 1 1) x.emp]
  have hbN : Below w2.heap.size w2 (w2.alloc (.cells (nfC (.pointer (some ⟨w2.heap.size, 0, none⟩)) (.slice (some ⟨w1.heap.size, 0, none⟩) 1 1) (fun _ => 0) 0 x.emp).toArray 72)) := (Below.refl _ w2).alloc (Nat.le_refl _) _
  have hN := at_push w2 (.cells (nfC (.pointer (some ⟨w2.heap.size, 0, none⟩)) (.slice (some ⟨w1.heap.size, 0, none⟩) 1 1) (fun _ => 0) 0 x.emp).toArray 72)
  obtain ⟨w3, hw3⟩ : ∃ y, w2.alloc (.cells (nfC (.pointer (some ⟨w2.heap.size, 0, none⟩)) (.slice (some ⟨w1.heap.size, 0, none⟩) 1 1) (fun _ => 0) 0 x.emp).toArray 72) = y := ⟨_, rfl⟩
  rw [hw3] at hbN hN ⊢
  have hwz : w.heap.size ≤ w1.heap.size := by have := HB1.out.size; have := HW1.out.size; simp at *; omega
  have hb6 := hb5.trans (hbN.mono hb5.size)
  have hx4 := (hbN.block _ (Array.getElem?_eq_some_iff.1 hx3).1).trans hx3
  have hrow4 := (hbN.block _ (Array.getElem?_eq_some_iff.1 hrow3).1).trans hrow3
  have hNB : NfB w3 w.heap.size w2.heap.size (.pointer (some ⟨w2.heap.size, 0, none⟩)) (.slice (some ⟨w1.heap.size, 0, none⟩) 1 1) ⟨[⟨#[]⟩], fun _ => 0⟩ 0 x.emp :=
   ⟨hN, ⟨rfl, .inr ⟨w1.heap.size, 1, #[.string ⟨#[]⟩], rfl, hwz, hrow4, Nat.le_refl _, by unfold maxLen; omega, rfl, rfl⟩⟩, hb5.size, HT.out.pos⟩
  have HADD := Lib.hid (add_any x HG.out.1 HG.out.2 M w.heap.size w2.heap.size _ _ _ 0 x.emp w3 (.agg #[.int .i64 kk, .string kl, .slice A n c]) (HXV.out.bel (hb6.mono hM)) hM hb6.size hNB (HT.out.below hb6 HT.out.pos) (fun p => by simp) (by have := pn_sz x; have := HG.out.2; simp; omega))
  unfold AddR at HADD
  have HN6 := Lib.hid hb6
  have c0 := cell_of_row _ _ 0 _ 25 (0, 0) hx4
  have c1 := cell_of_row _ _ 1 _ 25 (0, 0) hx4
  have c2 := cell_of_row _ _ 2 _ 25 (0, 0) hx4
  simp only [List.getElem?_toArray, List.getElem?_cons_zero, List.getElem?_cons_succ] at c0 c1 c2
  obtain ⟨N, hNN⟩ : ∃ y, w2.heap.size = y := ⟨_, rfl⟩
  rw [hNN] at HADD ⊢
  clear hb4 hx2 hrow hb5 hx3 hrow3 hbN hN hw3 hb6 hx4 hrow4 hNB hNN hwz
  obtain ⟨f, hf⟩ : ∃ y, (addX x ⟨[⟨#[]⟩], fun _ => 0⟩).2.1 = y := ⟨_, rfl⟩
  obtain ⟨g, hg⟩ : ∃ y, (addX x ⟨[⟨#[]⟩], fun _ => 0⟩).2.2 = y := ⟨_, rfl⟩
  rw [hf, hg] at HADD
  have HFG := Lib.hid (And.intro hf hg)
  clear hf hg
  go_upto_region 6 with (go_at_call 43; refine HADD.out.mono ?_; rintro e w4 ⟨lv4, rfl, hnb, hkn⟩; have HW4 := Lib.hid (And.intro hnb hkn); clear hnb hkn)
  have hk5 := Kn.of_below ((Below.refl _ w4).alloc (Nat.le_refl _) (.cells #[.int .u32 (f : Int), .int .u32 (g : Int)] 74)) (Nat.le_trans HN6.out.size HW4.out.2.size)
  have hnb5 := HW4.out.1.bel ((Below.refl _ w4).alloc (Nat.le_refl _) (.cells #[.int .u32 (f : Int), .int .u32 (g : Int)] 74))
  have hp5 := at_push w4 (.cells #[.int .u32 (f : Int), .int .u32 (g : Int)] 74)
  obtain ⟨W5, hW5⟩ : ∃ y, w4.alloc (.cells #[.int .u32 (f : Int), .int .u32 (g : Int)] 74) = y := ⟨_, rfl⟩
  rw [hW5] at hk5 hnb5 hp5 ⊢
  clear hW5 c0 c1 c2
  obtain ⟨p5, hpp⟩ : ∃ y, w4.heap.size = y := ⟨_, rfl⟩
  rw [hpp] at hp5 ⊢
  clear hpp
  have hkw := (Kn.of_below HN6.out (Nat.le_refl _)).trans (HW4.out.2.trans hk5)
  obtain ⟨b1, b2, b3, b4⟩ := addX_bd x (s := ⟨[⟨#[]⟩], fun _ => 0⟩) (fun p => by simp)
  have hl25 : (addX x ⟨[⟨#[]⟩], fun _ => 0⟩).1.labs.length ≤ 25 := by rw [b4]; have := pn_sz x; have := HG.out.2; simp; omega
  have hf32 : f < 2 ^ 32 := by rw [← HFG.out.1]; exact Nat.lt_of_lt_of_le b2 (Nat.pow_le_pow_right (by decide) (by omega))
  have hfo : ∀ p, (addX x ⟨[⟨#[]⟩], fun _ => 0⟩).1.fol p < 2 ^ 32 := fun p => Nat.lt_of_lt_of_le (b1 p) (Nat.pow_le_pow_right (by decide) (by omega))
  have hdr : Below W5.heap.size W5 W5.drew := (Below.refl _ W5).drew
  have hlk : Calls Tryd.prog 44 #[.pointer (some ⟨N, 0, none⟩), .int .u32 (1 : Int), .int .u32 (f : Int)] W5.drew _ := link_any (fr := 1) (tt := f) (hnb5.bel hdr) ((HT.out.low (hkw.low 0 HT.out.pos)).below hdr (HT.out.low (hkw.low 0 HT.out.pos)).pos) (Nat.le_trans hkw.size hdr.size) (by decide) hf32 hfo
  have HLK := Lib.hid hlk
  have HONLY := Lib.hid (fun W => show Calls Tryd.prog 45 #[.int .i64 (0 : Int)] W fun e w' => e = .returned (.int .u32 (1 : Int)) ∧ W = w' from only_any 0 (by decide) W)
  have HS := Lib.hid (fun W (hW : Kn w.heap.size W5 W) => show W.cell? ⟨p5, 0, none⟩ = some (.int .u32 (f : Int)) ∧ W.cell? ⟨p5, 1, none⟩ = some (.int .u32 (g : Int)) by
   have h := hW.cells _ _ _ _ hp5 (by decide) (by decide) (by decide)
   exact ⟨cell_of_row _ _ 0 _ 74 (0, 0) h, cell_of_row _ _ 1 _ 74 (0, 0) h⟩)
  have G0 := Lib.hid (show Kn w.heap.size W5 W5.drew from Kn.of_below hdr hkw.size)
  have HKW := Lib.hid hkw
  clear hk5 hnb5 hp5 hkw b1 b2 b3 b4 hl25 hf32 hfo hdr hlk
  refine wp_region_noPanic ?_
  refine wp_region_held_drew (S := fun W => W.cell? ⟨p5, 0, none⟩ = some (.int .u32 (f : Int)) ∧ W.cell? ⟨p5, 1, none⟩ = some (.int .u32 (g : Int))) (by kernel_rfl) (HS.out _ G0.out) (fun hHeld => ?_)
  clear hHeld
  refine tkI (i := 0) (v := .pointer (some ⟨N, 0, none⟩)) rfl ⟨by rfl, ?_⟩ (HS.out _ G0.out) ?_
  ·intro w hSw
   obtain ⟨hs0, hs1⟩ := hSw
   go_simp
  try simp only [Act.put, z1, z2, z3, z4, z5, z6]
  refine tkI (i := 2) (v := .pointer (some ⟨p5, 0, none⟩)) rfl ⟨by rfl, ?_⟩ (HS.out _ G0.out) ?_
  ·intro w hSw
   obtain ⟨hs0, hs1⟩ := hSw
   go_simp
  try simp only [Act.put, z1, z2, z3, z4, z5, z6]
  refine tkI (i := 3) (v := .int .u32 (f : Int)) rfl ⟨by rfl, ?_⟩ (HS.out _ G0.out) ?_
  ·intro w hSw
   obtain ⟨hs0, hs1⟩ := hSw
   go_simp
  try simp only [Act.put, z1, z2, z3, z4, z5, z6]
  refine wpAnyH_ready (rs := [1]) (by kernel_rfl) (by simp) ?_
  refine AllReadyH.cons rfl (fun K hK => ?_) AllReadyH.nil
  go_simp
  refine (HONLY.out _).mono ?_
  rintro e w' ⟨rfl, rfl⟩
  refine hK.out _ _ (HS.out _ G0.out) (fun _ => ?_)
  clear hK
  try simp only [Act.put, z1, z2, z3, z4, z5, z6]
  refine wpAnyH_ready (rs := [4]) (by kernel_rfl) (by simp) ?_
  refine AllReadyH.cons rfl (fun K hK => ?_) AllReadyH.nil
  go_simp
  refine HLK.out.mono ?_
  rintro e w6 ⟨rfl, hnb, hkn⟩
  have G1 := Lib.hid (show Kn w.heap.size W5 w6 from G0.out.trans hkn)
  have HW6 := Lib.hid hnb
  clear hnb hkn
  refine hK.out _ _ (HS.out _ G1.out) (fun _ => ?_)
  clear hK
  try simp only [Act.put, z1, z2, z3, z4, z5, z6]
  refine ⟨by kernel_rfl, ?_⟩
  refine NoPanic.normal ?_
  obtain ⟨c0, c1⟩ := HS.out _ G1.out
  have d0 := HW6.out.frz 27
  have c27 : w6.cell? ⟨N, 27, none⟩ = some (.int .u32 ((0 : Nat) : Int)) := by rw [cell_of_row _ _ _ _ _ _ HW6.out.blk, List.getElem?_toArray]; rfl
  go_wp2_with fail
  go_ret2
  have hfin := HW6.out.setLast g
  refine ⟨((HKW.out.trans G1.out).set_new HW6.out.low HW6.out.low _).below, ?_⟩
  refine ⟨N, rfl, lv4, ?_⟩
  have e1 : nfL x = g := HFG.out.2
  have e2 : nfF x = lnk (addX x ⟨[⟨#[]⟩], fun _ => 0⟩).1.fol 1 f := by unfold nfF nf; rw [HFG.out.1]
  rw [e1, e2]
  exact hfin
end Go.Proofs.YtnccgaanfjaimaaDoor

namespace Go.Proofs.YtnccgaanfjaimaaDoor
open Go.ChangeShapes Go.WideShapes Go.ChangeAt Go.RowKit
set_option linter.unusedVariables false
set_option linter.unusedSimpArgs false

/-- positions as numbers -/
def ints (l : List Nat) : List Int := l.map fun p : Nat => (p : Int)
theorem ListQ.ir {w w' : World} {v : Value} {l : List Nat} (h : w'.ownsRow w.heap.size 3 1 v l.length (nums l)) : IR w' v (ints l) := by
 refine IR.of_own (base := w.heap.size) (n := l.length) ?_
 unfold ints
 rw [List.map_map]
 exact h
theorem IR.lit1 (w : World) (p : Int) : IR (w.alloc (.cells #[.int .i64 p] 3)) (.slice (some ⟨w.heap.size, 0, none⟩) 1 1) [p] :=
 ⟨_, 1, rfl, fun _ => ⟨⟨w.heap.size, 0, none⟩, rfl, by simp, fun k hk => by
  obtain rfl : k = 0 := by simpa using hk
  rw [at_zero8]
  exact cell_of_row _ _ 0 _ 3 (0, 0) (at_push w _)⟩⟩
theorem x0_f0 : els (nfF x0 0) = [1] := by decide +kernel
theorem x0_l : els (nfL x0) = [2] := by decide +kernel
theorem x0_f1 : folP x0 1 = [2] := by decide +kernel
theorem x0_f2 : folP x0 2 = [1] := by decide +kernel
theorem x0_pn : x0.pn = 2 := by decide +kernel

set_option maxRecDepth 100000 in
set_option maxHeartbeats 1000000 in
theorem awake_any {w : World} (hT : Tb w) : Calls Tryd.prog 9 #[] w fun e w' => e = .returned (.bool true) ∧ Below w.heap.size w w' := by
 have HT := Lib.hid hT
 clear hT
 go_enter Tryd.func9, Tryd.ntmps9
 go_upto_region 1 with (fail)
 go_wp2_with (first
  | (go_at_call 35; refine (label_any _ _).mono ?_; rintro e w1 ⟨rfl, h1⟩)
  | (go_at_call 34; refine (of_any _ _ _ _ _).mono ?_; rintro e w3 ⟨rfl, h3⟩))
 rename_i Q K1 a1 wa0 ha0 wa ha K hK
 have hab : Gr w w1 := ha0.trans h1
 have hgW : Gr w w3 := ((((hab.alloc _).trans ha).alloc _).trans h3)
 have hg1 : Gr (w1.alloc (.cells #[.int .i64 1, .string ⟨#[97]⟩, .slice none 0 0, .int .i64 1, .string ⟨#[98]⟩, .slice none 0 0] 25)) w3 := (ha.alloc _).trans h3
 have hg2 : Gr (wa.alloc (.cells #[.int .i64 2, .string ⟨#[]⟩, .slice (some ⟨w1.heap.size, 0, none⟩) 2 2] 25)) w3 := h3
 have hc1 : w3.heap[w1.heap.size]? = some (.cells #[.int .i64 1, .string ⟨#[97]⟩, .slice none 0 0, .int .i64 1, .string ⟨#[98]⟩, .slice none 0 0] 25) := by
  rw [hg1.below.block _ (lt_push _ _)]; exact at_push _ _
 have hc2 : w3.heap[wa.heap.size]? = some (.cells #[.int .i64 2, .string ⟨#[]⟩, .slice (some ⟨w1.heap.size, 0, none⟩) 2 2] 25) := by
  rw [hg2.below.block _ (lt_push _ _)]; exact at_push _ _
 have hl1 : w1.heap.size < w3.heap.size := Nat.lt_of_lt_of_le (lt_push _ _) hg1.below.size
 have hl2 : wa.heap.size < w3.heap.size := Nat.lt_of_lt_of_le (lt_push _ _) hg2.below.size
 have hx : XV w3.heap.size w3 (v0 wa.heap.size) x0 := by
  refine ⟨_, rfl, XR.one hc2 hl2 rfl rfl ?_ 1 (Nat.le_refl _)⟩
  exact XR.two hc1 hl1 rfl rfl (XR.nil _ _ _ _) rfl rfl (XR.nil _ _ _ _) 2 (Nat.le_refl _)
 have hB := hgW.below
 have hT3 := HT.out.below hB HT.out.pos
 have HNEW := Lib.hid (new_any hx (Nat.le_refl _) hT3 (fun W hW => right37_any (hx.bel hW) hW.size x0_lit))
 have HB := Lib.hid hB
 have HT3 := Lib.hid hT3
 unfold NewR at HNEW
 clear hab hgW hg1 hg2 hc1 hc2 hl1 hl2 hx ha h1 ha0 h3 hB hT3
 refine HNEW.out.mono ?_
 rintro e w4 ⟨hb4, hnn⟩
 rw [if_pos x0_right] at hnn
 obtain ⟨N, rfl, hn⟩ := hnn
 have HN := Lib.hid (fun U (hU : Below w4.heap.size w4 U) => hn.bel hU)
 have HT4 := Lib.hid (fun U (hU : Below w4.heap.size w4 U) => (HT3.out.below hb4 HT3.out.pos).below hU (HT3.out.below hb4 HT3.out.pos).pos)
 have HB4 := Lib.hid (HB.out.trans (hb4.mono HB.out.size))
 have hlen := len_any hn (by rw [x0_pn]; decide)
 rw [x0_pn] at hlen
 have HLEN := Lib.hid hlen
 have hp24 : x0.pn ≤ 24 := by rw [x0_pn]; decide
 have HF := Lib.hid (fun U (hU : Below w4.heap.size w4 U) => show Calls Tryd.prog 14 #[.pointer (some ⟨N, 0, none⟩)] U (ListQ [1] U) by have h := first14_any (HN.out U hU) (HT4.out U hU) hp24; rw [x0_f0] at h; exact h)
 have HL := Lib.hid (fun U (hU : Below w4.heap.size w4 U) => show Calls Tryd.prog 24 #[.pointer (some ⟨N, 0, none⟩)] U (ListQ [2] U) by have h := last_any (HN.out U hU) (HT4.out U hU) hp24; rw [x0_l] at h; exact h)
 have HO1 := Lib.hid (fun U (hU : Below w4.heap.size w4 U) => show Calls Tryd.prog 21 #[.pointer (some ⟨N, 0, none⟩), .int .i64 1] U (ListQ [2] U) by have h := follow_any (HN.out U hU) (HT4.out U hU) hp24 1; rw [x0_f1] at h; exact h)
 have HO2 := Lib.hid (fun U (hU : Below w4.heap.size w4 U) => show Calls Tryd.prog 21 #[.pointer (some ⟨N, 0, none⟩), .int .i64 2] U (ListQ [1] U) by have h := follow_any (HN.out U hU) (HT4.out U hU) hp24 2; rw [x0_f2] at h; exact h)
 have HE := Lib.hid (fun U (hU : Below w4.heap.size w4 U) => show Calls Tryd.prog 17 #[.pointer (some ⟨N, 0, none⟩)] U _ by have h := empty_any (HN.out U hU); rw [x0_emp] at h; exact h)
 have HSAME := Lib.hid (fun (U' : World) (v : Value) (p : Int) (hv : IR U' v [p]) => show Calls Tryd.prog 20 #[v, .slice (some ⟨U'.heap.size, 0, none⟩) 1 1] (U'.alloc (.cells #[.int .i64 p] 3)) fun e w' => e = .returned (.bool true) ∧ Below U'.heap.size U' w' by
  have hb := (Below.refl _ U').alloc (Nat.le_refl _) (.cells #[.int .i64 p] 3)
  refine (sameI_any _ _ [p] [p] _ (hv.bel hb) (IR.lit1 U' p) (by simp)).mono ?_
  rintro e w' ⟨rfl, h⟩
  exact ⟨by simp, hb.trans (h.mono hb.size)⟩)
 unfold ListQ at HF HL HO1 HO2
 have G0 := Lib.hid (Below.refl w4.heap.size w4)
 clear hb4 hn hlen
 go_wp2_with (first
  | (go_at_call 16; refine HLEN.out.mono ?_; rintro e u0 ⟨rfl, rfl⟩)
  | (go_at_call 17; refine (HE.out _ G8.out).mono ?_; rintro e u9 ⟨rfl, rfl⟩)
  | (go_at_call 20; refine (HSAME.out u7 _ 1 (ListQ.ir (l := [1]) I7.out)).mono ?_; rintro e u8 ⟨rfl, h⟩; have G8 := Lib.hid (G7.out.trans (h.mono G7.out.size)); clear h)
  | (go_at_call 21; refine (HO2.out _ G6.out).mono ?_; rintro e u7 ⟨v, rfl, hi, h⟩; have G7 := Lib.hid (G6.out.trans (h.mono G6.out.size)); have I7 := Lib.hid hi; clear h hi)
  | (go_at_call 20; refine (HSAME.out u5 _ 2 (ListQ.ir (l := [2]) I5.out)).mono ?_; rintro e u6 ⟨rfl, h⟩; have G6 := Lib.hid (G5.out.trans (h.mono G5.out.size)); clear h)
  | (go_at_call 21; refine (HO1.out _ G4.out).mono ?_; rintro e u5 ⟨v, rfl, hi, h⟩; have G5 := Lib.hid (G4.out.trans (h.mono G4.out.size)); have I5 := Lib.hid hi; clear h hi)
  | (go_at_call 20; refine (HSAME.out u3 _ 2 (ListQ.ir (l := [2]) I3.out)).mono ?_; rintro e u4 ⟨rfl, h⟩; have G4 := Lib.hid (G3.out.trans (h.mono G3.out.size)); clear h)
  | (go_at_call 24; refine (HL.out _ G2.out).mono ?_; rintro e u3 ⟨v, rfl, hi, h⟩; have G3 := Lib.hid (G2.out.trans (h.mono G2.out.size)); have I3 := Lib.hid hi; clear h hi)
  | (go_at_call 20; refine (HSAME.out u1 _ 1 (ListQ.ir (l := [1]) I1.out)).mono ?_; rintro e u2 ⟨rfl, h⟩; have G2 := Lib.hid (G1.out.trans (h.mono G1.out.size)); clear h)
  | (go_at_call 14; refine (HF.out _ G0.out).mono ?_; rintro e u1 ⟨v, rfl, hi, h⟩; have G1 := Lib.hid (G0.out.trans (h.mono G0.out.size)); have I1 := Lib.hid hi; clear h hi))
 go_ret
 exact ⟨rfl, HB4.out.trans (G8.out.mono HB4.out.size)⟩
end Go.Proofs.YtnccgaanfjaimaaDoor

namespace Go.Proofs.YtnccgaanfjaimaaDoor
open Go.ChangeShapes Go.WideShapes Go.ChangeAt Go.RowKit
set_option linter.unusedVariables false
set_option linter.unusedSimpArgs false

set_option maxHeartbeats 1000000 in
theorem has38_any {w : World} {v : Value} {l : List Int} (hv : IR w v l) (hlen : l.length ≤ 1000000) (m : Int) :
  Calls Tryd.prog 38 #[v, .int .i64 m] w fun e w' => e = .returned (.bool (decide (m ∈ l))) ∧ w = w' := by
 obtain ⟨A, c, rfl, hcell⟩ := hv
 obtain ⟨n, hn⟩ : ∃ n, l.length = n := ⟨_, rfl⟩
 have HN := Lib.hid hn
 rw [hn] at hlen ⊢
 have HC := Lib.hid hcell
 clear hn hcell
 go_enter Tryd.func38, Tryd.ntmps38
 go_wp2_with fail
 go_loopw [5] (fun i wr => ∃ k : Nat, k ≤ n ∧ i = .int .i64 k ∧ m ∉ l.take k ∧ w = wr) (fun i _ => n - (intOf i).toNat)
 case atStart => exact ⟨0, Nat.zero_le _, rfl, by simp, rfl⟩
 case round =>
  obtain ⟨k, hk, rfl, hm, rfl⟩ := hrel
  by_cases hlt : k < n
  ·have e1 : k < l.length := by have := HN.out; omega
   obtain ⟨ad, rfl, -, hc⟩ := HC.out (by omega)
   have q := hc k e1
   have htk : l.take (k + 1) = l.take k ++ [l[k]] := List.take_succ_eq_append_getElem e1
   have hmem : l[k] ∈ l := List.getElem_mem e1
   have HM := Lib.hid (And.intro hm (And.intro htk hmem))
   generalize l[k] = p at *
   clear hm htk hmem hc
   by_cases hp : p = m
   ·subst hp
    go_wp2_with fail
    go_ret
    exact ⟨by rw [decide_eq_true HM.out.2.2]; rfl, rfl⟩
   ·go_wp2_with fail
    go_roundw
    case rel => exact ⟨k + 1, by omega, by go_num, by rw [HM.out.2.1]; simp; exact ⟨HM.out.1, fun h => hp h.symm⟩, trivial⟩
    case measure => simp [intOf]; omega
  ·have htk : l.take k = l := List.take_of_length_le (by have := HN.out; omega)
   rw [htk] at hm
   have HM := Lib.hid hm
   clear hm htk
   go_wp2_with fail
   go_ret
   exact ⟨by rw [decide_eq_false HM.out]; rfl, rfl⟩

theorem ints_mem {l : List Nat} {p : Nat} : ((p : Int) ∈ ints l) ↔ p ∈ l := by
 unfold ints
 rw [List.mem_map]
 constructor
 ·rintro ⟨q, hq, h⟩
  obtain rfl : q = p := by omega
  exact hq
 ·intro h; exact ⟨p, h, rfl⟩
theorem orL_els {S : Nat} (h : S < 2 ^ 32) : orL ((els S).map (2 ^ ·)) = S := by
 apply Nat.eq_of_testBit_eq
 intro i
 rw [orL_bit, List.any_map]
 cases hb : S.testBit i with
 | true =>
  rw [List.any_eq_true]
  refine ⟨i, mem_els.2 ⟨Nat.lt_of_not_le fun hge => ?_, hb⟩, ?_⟩
  ·rw [bit_false h hge] at hb; cases hb
  ·simp [Nat.testBit_two_pow]
 | false =>
  rw [List.any_eq_false]
  intro p hp
  simp only [Function.comp, Nat.testBit_two_pow, decide_eq_true_eq]
  rintro rfl
  rw [(mem_els.1 hp).2] at hb
  cases hb
/-- a list of places tells its set -/
theorem knN_els (x : X) {S : Nat} (h : S < 2 ^ (1 + x.pn)) (h32 : S < 2 ^ 32) : knN x (ints (els S)) = S := by
 unfold knN
 have h1 : (ints (els S)).filter (okP x) = ints (els S) := by
  rw [List.filter_eq_self]
  intro p hp
  unfold ints at hp
  obtain ⟨q, hq, rfl⟩ := List.mem_map.1 hp
  unfold okP
  rw [decide_eq_true_eq]
  have hb : q < 1 + x.pn := Nat.lt_of_not_le fun hge => by
   have := (mem_els.1 hq).2
   rw [bit_false h hge] at this
   cases this
  omega
 rw [h1]
 unfold ints
 rw [List.map_map]
 exact orL_els h32

/-- the law's size of an expression, from its top -/
theorem size8_any {M : Nat} {w : World} {v : Value} {x : X} (hx : XV M w v x) (hM : M ≤ w.heap.size) : Calls Tryd.prog 8 #[v, .int .i64 0] w fun e w' => e = .returned (.int .i64 (szD 61 x)) ∧ Below w.heap.size w w' :=
 (size_any 61 x M w v hx hM (Nat.le_refl _)).mono (by rintro e w' ⟨h, hg⟩; exact ⟨h, hg.below⟩)
theorem new11_any {M : Nat} {w : World} {v : Value} {x : X} (hx : XV M w v x) (hM : M ≤ w.heap.size) (hT : Tb w) (hl : x.lit) : Calls Tryd.prog 11 #[v] w (NewR x w) :=
 new_any hx hM hT (fun W hW => right37_any (hx.bel (hW.mono hM)) (Nat.le_trans hM hW.size) hl)

/-- what the law of words knows when it comes to its tests -/
structure Wp (M : Nat) (w : World) (x : X) (n c : Nat) (A : Option Addr) (W : World) : Prop where
 b : Below w.heap.size w W
 bx : W.heap[w.heap.size]? = some (.cells #[.int .i64 x.kind, .string x.lab, .slice A n c] 25 (0, 0))
 xv : XV M W (.agg #[.int .i64 x.kind, .string x.lab, .slice A n c]) x
 tb : Tb W
theorem Wp.bel {M : Nat} {w : World} {x : X} {n c : Nat} {A : Option Addr} {W W' : World} (h : Wp M w x n c A W) (hM : M ≤ w.heap.size) (hb : Below W.heap.size W W') : Wp M w x n c A W' :=
 ⟨h.b.trans (hb.mono h.b.size), (hb.block _ (Array.getElem?_eq_some_iff.1 h.bx).1).trans h.bx, h.xv.bel (hb.mono (Nat.le_trans hM h.b.size)), h.tb.below hb h.tb.pos⟩
theorem Wp.cells {M : Nat} {w : World} {x : X} {n c : Nat} {A : Option Addr} {W : World} (h : Wp M w x n c A W) : W.cell? ⟨w.heap.size, 0, none⟩ = some (.int .i64 x.kind) ∧ W.cell? ⟨w.heap.size, 1, none⟩ = some (.string x.lab) ∧ W.cell? ⟨w.heap.size, 2, none⟩ = some (.slice A n c) :=
 ⟨cell_of_row _ _ 0 _ 25 (0, 0) h.bx, cell_of_row _ _ 1 _ 25 (0, 0) h.bx, cell_of_row _ _ 2 _ 25 (0, 0) h.bx⟩
theorem Wp.new {M : Nat} {w : World} {x : X} {c : Nat} {A : Option Addr} (hx : XV M w (.agg #[.int .i64 x.kind, .string x.lab, .slice A x.kids.length c]) x) (hM : M ≤ w.heap.size) (hT : Tb w) : Wp M w x x.kids.length c A (w.alloc (.cells #[.int .i64 x.kind, .string x.lab, .slice A x.kids.length c] 25)) := by
 have hb := (Below.refl _ w).alloc (Nat.le_refl _) (.cells #[.int .i64 x.kind, .string x.lab, .slice A x.kids.length c] 25)
 exact ⟨hb, at_push w _, hx.bel (hb.mono hM), hT.below hb hT.pos⟩
end Go.Proofs.YtnccgaanfjaimaaDoor

namespace Go.Proofs.YtnccgaanfjaimaaDoor
open Go.ChangeShapes Go.WideShapes Go.ChangeAt Go.RowKit
set_option linter.unusedVariables false
set_option linter.unusedSimpArgs false

/-- is one of the first k of some places a last one, or is the word empty, and taken? -/
def endK (x : X) (u : Wd) (S k : Nat) : Bool := (decide (u.length = 0) && x.emp) || ((els S).take k).any fun p => decide (p ∈ els (nfL x))
theorem endK_zero (x : X) (u : Wd) (S : Nat) : endK x u S 0 = (decide (u.length = 0) && x.emp) := by simp [endK]
theorem endK_succ (x : X) (u : Wd) (S : Nat) {k : Nat} (h : k < (els S).length) : endK x u S (k + 1) = (endK x u S k || decide ((els S)[k] ∈ els (nfL x))) := by
 unfold endK
 rw [List.take_succ_eq_append_getElem h, List.any_append, Bool.or_assoc]
 simp
theorem endK_end {x : X} (hs : x.pn ≤ 24) (u : Wd) : endK x u (stepsN (nf x).1.labs (nfF x) 1 u) (els (stepsN (nf x).1.labs (nfF x) 1 u)).length = takesN x u := by
 have hl : nfL x < 2 ^ 32 := Nat.lt_of_lt_of_le (nfL_lt hs) (by decide)
 unfold endK takesN
 rw [List.take_length]
 by_cases hu : u = []
 ·subst hu
  rw [if_pos rfl]
  have h0 : (els (stepsN (nf x).1.labs (nfF x) 1 [])) = [0] := by show els 1 = [0]; decide +kernel
  rw [h0]
  have : ¬ (0 ∈ els (nfL x)) := fun h => by
   have h1 := (mem_els.1 h).2
   rw [nfL_bit] at h1
   have := lst_in x 1 0 h1
   omega
  simp [this]
 ·rw [if_neg hu]
  have h0 : decide (u.length = 0) = false := decide_eq_false (fun h => hu (List.eq_nil_of_length_eq_zero h))
  rw [h0, Bool.false_and, Bool.false_or]
  refine bool_ext ?_
  rw [List.any_eq_true, decide_eq_true_eq, and_ne_zero]
  constructor
  ·rintro ⟨p, hp, hq⟩
   exact ⟨p, (mem_els.1 hp).2, (mem_els.1 (of_decide_eq_true hq)).2⟩
  ·rintro ⟨q, h1, h2⟩
   have hq : q < 32 := Nat.lt_of_not_le fun hge => by rw [bit_false hl hge] at h2; cases h2
   exact ⟨q, mem_els.2 ⟨hq, h1⟩, decide_eq_true (mem_els.2 ⟨hq, h2⟩)⟩
theorem IR.at {w : World} {A : Option Addr} {n c : Nat} {l : List Int} (h : IR w (.slice A n c) l) (k : Nat) (hk : k < l.length) : ∃ ad, A = some ad ∧ w.cell? (ad.add k) = some (.int .i64 l[k]) := by
 obtain ⟨A', c', e, h⟩ := h
 obtain ⟨ad, had, _, hc⟩ := h (by omega)
 injection e with e1 _ _
 exact ⟨ad, e1.trans had, hc k hk⟩
theorem ints_get {l : List Nat} {k : Nat} (h : k < l.length) (h' : k < (ints l).length) : (ints l)[k] = (l[k] : Int) := by simp [ints]
theorem takes_both {x : X} (hr : x.right = true) (u : Wd) : takesB x u = takesN x u := by
 obtain ⟨hg, hs⟩ := right_good hr
 refine bool_ext ?_
 rw [takesB_iff, takesN_iff hg hs]
 simp [hr]

end Go.Proofs.YtnccgaanfjaimaaDoor

namespace Go.Proofs.YtnccgaanfjaimaaDoor
open Go.ChangeShapes Go.WideShapes Go.ChangeAt Go.RowKit
set_option linter.unusedVariables false
set_option linter.unusedSimpArgs false

theorem pnL_take {ks : List X} {k : Nat} (h : k < ks.length) : pnL (ks.take (k + 1)) = pnL (ks.take k) + ks[k].pn := by
 rw [List.take_succ_eq_append_getElem h]
 have : ∀ (a b : List X), pnL (a ++ b) = pnL a + pnL b := by
  intro a b
  induction a with
  | nil => simp [pnL_nil]
  | cons x xs ih => rw [List.cons_append, pnL_cons, pnL_cons, ih]; omega
 rw [this, pnL_cons, pnL_nil]
 omega
theorem pnL_take_le (ks : List X) (k : Nat) : pnL (ks.take k) ≤ pnL ks := by
 by_cases h : k ≤ ks.length
 ·have : ∀ (a b : List X), pnL (a ++ b) = pnL a + pnL b := by
   intro a b
   induction a with
   | nil => simp [pnL_nil]
   | cons x xs ih => rw [List.cons_append, pnL_cons, pnL_cons, ih]; omega
  have h2 := this (ks.take k) (ks.drop k)
  rw [List.take_append_drop] at h2
  omega
 ·rw [List.take_of_length_le (by omega)]; exact Nat.le_refl _

set_option maxRecDepth 100000 in
set_option maxHeartbeats 4000000 in
theorem labels41_any : ∀ x : X, x.sz ≤ 100000 → ∀ (M : Nat) (w : World) (v : Value), XV M w v x → M ≤ w.heap.size → Calls Tryd.prog 41 #[v] w fun e w' => e = .returned (.int .i64 x.pn) ∧ Below w.heap.size w w' := by
 intro x
 induction x using X.ind' with
 | h x ih =>
  intro hs M w v hx hM
  obtain ⟨kv, rfl, hr⟩ := hx
  obtain ⟨A, c, rfl⟩ := hr.form
  have hx0 := at_push w (.cells #[.int .i64 x.kind, .string x.lab, .slice A x.kids.length c] 25)
  have hb := (Below.refl _ w).alloc (Nat.le_refl _) (.cells #[.int .i64 x.kind, .string x.lab, .slice A x.kids.length c] 25)
  have c0 := cell_of_row _ _ 0 _ 25 (0, 0) hx0
  have c1 := cell_of_row _ _ 1 _ 25 (0, 0) hx0
  have c2 := cell_of_row _ _ 2 _ 25 (0, 0) hx0
  simp only [List.getElem?_toArray, List.getElem?_cons_zero, List.getElem?_cons_succ] at c0 c1 c2
  by_cases h1 : x.kind = 1
  ·rw [X.pn_eq, if_pos h1]
   rw [h1] at c0 hb ⊢
   have HB := Lib.hid hb
   have c0' : (w.alloc (.cells #[.int .i64 1, .string x.lab, .slice A x.kids.length c] 25)).cell? ⟨w.heap.size, 0, none⟩ = some (.int .i64 1) := cell_of_row _ _ 0 _ 25 (0, 0) (at_push w _)
   clear hx0 hb hr ih c0 c1 c2
   go_enter Tryd.func41, Tryd.ntmps41
   go_wp2_with fail
   go_ret
   exact ⟨rfl, HB.out⟩
  ·have ek : (x.kind == 1) = false := by simp [h1]
   have hpn : x.pn = pnL x.kids := by rw [X.pn_eq, if_neg h1]
   rw [hpn]
   obtain ⟨n, hn⟩ : ∃ n, x.kids.length = n := ⟨_, rfl⟩
   have HN := Lib.hid hn
   have HB := Lib.hid hb
   have HX0 := Lib.hid hx0
   have hXR := hr.bel (hb.mono hM)
   have HXR := Lib.hid hXR
   have hkl : n ≤ 100000 := by have := len_szL x.kids; have := x.sz_eq; omega
   have hpl : pnL x.kids ≤ 100000 := by have := pn_szL x.kids; have := x.sz_eq; omega
   have hkz : ∀ y ∈ x.kids, y.sz ≤ 100000 := fun y hy => by have := szL_mem hy; have := x.sz_eq; omega
   have HIH := Lib.hid (fun y (hy : y ∈ x.kids) => ih y hy (hkz y hy))
   rw [hn] at HX0 HB HXR c0 c1 c2 ⊢
   have htl : ∀ k, pnL (x.kids.take k) ≤ 100000 := fun k => Nat.le_trans (pnL_take_le _ _) hpl
   have HTL := Lib.hid htl
   clear hx0 hb hr ih h1 hpn hn hXR hpl hkz hs htl
   generalize x.kids = ks at *
   generalize x.kind = kk at *
   go_enter Tryd.func41, Tryd.ntmps41
   go_upto_region 5 with (fail)
   try simp only [ek]
   clear ek
   obtain ⟨W0, hW0⟩ : ∃ y, w.alloc (.cells #[.int .i64 kk, .string x.lab, .slice A n c] 25) = y := ⟨_, rfl⟩
   rw [hW0] at HX0 HB HXR c0 c1 c2 ⊢
   clear hW0 c0 c1 c2
   go_loopw [3, 4] (fun s i wr => ∃ k : Nat, k ≤ n ∧ i = .int .i64 k ∧ s = .int .i64 (pnL (ks.take k) : Nat) ∧ Below W0.heap.size W0 wr) (fun _ i _ => n - (intOf i).toNat)
   case atStart => exact ⟨0, Nat.zero_le _, rfl, by simp [pnL_nil], Below.refl _ _⟩
   case round =>
    obtain ⟨k, hk, rfl, rfl, hbw⟩ := hrel
    have HBW := Lib.hid hbw
    have hxw := (hbw.block _ (Array.getElem?_eq_some_iff.1 HX0.out).1).trans HX0.out
    have c2 := cell_of_row _ _ 2 _ 25 (0, 0) hxw
    simp only [List.getElem?_toArray, List.getElem?_cons_zero, List.getElem?_cons_succ] at c2
    have htk := HTL.out k
    by_cases hlt : k < n
    ·have e1 : k < ks.length := by have := HN.out; omega
     obtain ⟨ad, kv, f1, _, q0, q1, q2, q3⟩ := XR.at3 (HXR.out.bel (hbw.mono (Nat.le_trans hM HB.out.size))) e1
     subst f1
     have htk2 := HTL.out (k + 1)
     rw [pnL_take e1] at htk2
     have hnext := pnL_take e1
     have HC := Lib.hid (HIH.out ks[k] (List.getElem_mem e1) M wr (.agg #[.int .i64 ks[k].kind, .string ks[k].lab, kv]) ⟨kv, rfl, q3⟩ (Nat.le_trans hM (Nat.le_trans HB.out.size hbw.size)))
     have HNX := Lib.hid hnext
     clear hbw hxw hnext q3
     go_wp2_with (go_at_call 41; refine HC.out.mono ?_; rintro e w2 ⟨rfl, hb2⟩; have HB2 := Lib.hid (HBW.out.trans (hb2.mono HBW.out.size)); clear hb2)
     go_roundw
     case rel => exact ⟨k + 1, by omega, by go_num, by rw [HNX.out]; go_num, HB2.out⟩
     case measure => simp [intOf]; omega
    ·have hkn : k = n := by omega
     have : ks.take k = ks := List.take_of_length_le (by have := HN.out; omega)
     rw [this]
     clear this hbw hxw
     go_wp2_with fail
     go_ret
     exact ⟨rfl, HB.out.trans (HBW.out.mono HB.out.size)⟩

/-- where one may go on: to each of these a walk leads, whose word is the word so far, and its label -/
def Goes (x : X) (S : Nat) (u : Wd) : Prop := ∀ q, S.testBit q = true → ∃ f, x.fst 1 f = true ∧ Rn (fun i => (nf x).1.labs[i]?.getD ⟨#[]⟩) (x.fol 1) f (u ++ [(nf x).1.labs[q]?.getD ⟨#[]⟩]) q
theorem Goes.start (x : X) : Goes x (nfF x 0) [] := fun q hq => ⟨q, by rw [← nfF_zero]; exact hq, .one q⟩
theorem Goes.step {x : X} {S : Nat} {u : Wd} (h : Goes x S u) {p : Nat} (hp : S.testBit p = true) (h0 : 0 < p) : Goes x (nfF x p) (u ++ [(nf x).1.labs[p]?.getD ⟨#[]⟩]) := by
 intro q hq
 obtain ⟨f, hf, hr⟩ := h p hp
 rw [nfF_pos x h0] at hq
 exact ⟨f, hf, hr.app hq (.one q)⟩
theorem Goes.takes {x : X} (hr : x.right = true) {S : Nat} {u : Wd} (h : Goes x S u) {p : Nat} (hp : S.testBit p = true) (hl : p ∈ els (nfL x)) : takesB x (u ++ [(nf x).1.labs[p]?.getD ⟨#[]⟩]) = true := by
 rw [takesB_iff]
 refine ⟨hr, (walks_any x (right_good hr).1 1 _ (lbAt_nf x) _).2 (.inr ?_)⟩
 obtain ⟨f, hf, hrn⟩ := h p hp
 exact ⟨f, p, hf, by rw [← nfL_bit]; exact (mem_els.1 hl).2, hrn⟩
theorem nfF_range {x : X} (p q : Nat) (h : (nfF x p).testBit q = true) : 1 ≤ q ∧ q ≤ x.pn := by
 by_cases h0 : p = 0
 ·subst h0
  rw [nfF_zero] at h
  have := fst_in x 1 q h
  omega
 ·rw [nfF_pos x (by omega)] at h
  have := fol_in x 1 p q h
  omega
theorem step_one {x : X} (hs : x.pn ≤ 24) {p : Nat} (h0 : 0 < p) (hp : p ≤ x.pn) (s : ByteArray) {m : Nat} : (m ∈ els (stepN (nf x).1.labs (nfF x) (knN x [(p : Int)]) s)) ↔ (m ∈ els (nfF x p) ∧ (nf x).1.labs[m]?.getD ⟨#[]⟩ = s) := by
 have hk : knN x [(p : Int)] = 2 ^ p := by
  have hok : okP x (p : Int) = true := by unfold okP; rw [decide_eq_true_eq]; omega
  have := knN_snoc x [] (p : Int)
  rw [List.nil_append, if_pos hok] at this
  rw [this]
  simp [knN, orL]
 rw [hk, mem_els, mem_els, stepN_bit (n := 1 + x.pn) (by omega) (nf_bd x).1 (Nat.pow_lt_pow_right (by decide) (by omega))]
 constructor
 ·rintro ⟨h1, ⟨q, hq, h2⟩, h3⟩
  rw [Nat.testBit_two_pow, decide_eq_true_eq] at hq
  subst hq
  exact ⟨⟨h1, h2⟩, h3⟩
 ·rintro ⟨⟨h1, h2⟩, h3⟩
  exact ⟨h1, ⟨p, by rw [Nat.testBit_two_pow]; simp, h2⟩, h3⟩
theorem els_pos {s p : Nat} (h : s.testBit p = true) (hp : p < 32) : 0 < (els s).length := List.length_pos_of_mem (mem_els.2 ⟨hp, h⟩)
theorem first_pos {x : X} (hg : x.good) (hs : x.pn ≤ 24) : 0 < (els (nfF x 0)).length := by
 obtain ⟨p, hp⟩ := (fst_some x hg 1).1
 have := fst_in x 1 p hp
 exact els_pos (by rw [nfF_zero]; exact hp) (by omega)
theorem last_pos {x : X} (hg : x.good) (hs : x.pn ≤ 24) : 0 < (els (nfL x)).length := by
 obtain ⟨p, hp⟩ := (fst_some x hg 1).2
 have := lst_in x 1 p hp
 exact els_pos (by rw [nfL_bit]; exact hp) (by omega)
theorem SR.of_own {w : World} {base n : Nat} {v : Value} {l : Wd} (h : w.ownsRow base 9 1 v n (l.map Value.string)) : SR w.heap.size w v l := by
 have hn : n = l.length := by have := h.1; simp at this; omega
 subst hn
 rcases h.2 with ⟨rfl, hx⟩ | ⟨g, cap, cur, rfl, _, hh, _⟩
 ·have : l = [] := List.eq_nil_of_length_eq_zero hx
  subst this
  exact ⟨Option.none, 0, rfl, fun h => absurd h (by simp)⟩
 ·refine ⟨_, cap, rfl, fun _ => ⟨_, rfl, (Array.getElem?_eq_some_iff.1 hh).1, fun k hk => ?_⟩⟩
  exact h.cells (g := g) rfl k _ (by simp [hk])
end Go.Proofs.YtnccgaanfjaimaaDoor

namespace Go.Proofs.YtnccgaanfjaimaaDoor
open Go.ChangeShapes Go.WideShapes Go.ChangeAt Go.RowKit
set_option linter.unusedVariables false
set_option linter.unusedSimpArgs false

attribute [local go_sem] Oper.semAt_some

/-- at block g there lies a row of n + 1 flags -/
structure FRat (B : Nat) (w : World) (g n : Nat) (P : Nat → Prop) : Prop where
 hb : B ≤ g
 row : ∃ row, w.heap[g]? = some (.cells row 4 (0, 0)) ∧ row.size = n + 1 ∧ ∀ j, j ≤ n → row[j]? = some (.bool (pB (P j)))
theorem FRat.lt {B : Nat} {w : World} {g n : Nat} {P : Nat → Prop} (h : FRat B w g n P) : g < w.heap.size := by
 obtain ⟨row, h1, _⟩ := h.row
 exact (Array.getElem?_eq_some_iff.1 h1).1
theorem FRat.same {B : Nat} {w w' : World} {g n : Nat} {P : Nat → Prop} (h : FRat B w g n P) (e : w'.heap[g]? = w.heap[g]?) : FRat B w' g n P := by
 obtain ⟨row, h1, h2⟩ := h.row
 exact ⟨h.hb, row, e.trans h1, h2⟩
theorem FRat.bel {B : Nat} {w w' : World} {g n : Nat} {P : Nat → Prop} (h : FRat B w g n P) (hb : Below w.heap.size w w') : FRat B w' g n P := h.same (hb.block _ h.lt)
theorem FRat.mono {B B' : Nat} {w : World} {g n : Nat} {P : Nat → Prop} (h : FRat B w g n P) (hB : B' ≤ B) : FRat B' w g n P := ⟨Nat.le_trans hB h.hb, h.row⟩
theorem pB_congr {P Q : Prop} (h : P ↔ Q) : pB P = pB Q := bool_ext (pB_iff.trans (h.trans pB_iff.symm))
theorem FRat.ext {B : Nat} {w : World} {g n : Nat} {P Q : Nat → Prop} (h : FRat B w g n P) (e : ∀ j, j ≤ n → (P j ↔ Q j)) : FRat B w g n Q := by
 obtain ⟨row, h1, h2, h3⟩ := h.row
 exact ⟨h.hb, row, h1, h2, fun j hj => by rw [h3 j hj, pB_congr (e j hj)]⟩
theorem FRat.flag {B : Nat} {w : World} {g n : Nat} {P : Nat → Prop} (h : FRat B w g n P) {j : Nat} (hj : j ≤ n) : w.cell? ⟨g, j, none⟩ = some (.bool (pB (P j))) := by
 obtain ⟨row, h1, h2, h3⟩ := h.row
 rw [cell_of_row _ _ _ _ _ _ h1]
 exact h3 j hj
theorem FRat.frozen {B : Nat} {w : World} {g n : Nat} {P : Nat → Prop} (h : FRat B w g n P) (j : Nat) : w.frozen? ⟨g, j, none⟩ = false := by
 obtain ⟨row, h1, _⟩ := h.row
 simp [World.frozen?, h1]
theorem FRat.set {B : Nat} {w : World} {g n : Nat} {P Q : Nat → Prop} (h : FRat B w g n P) {j : Nat} (hj : j ≤ n) (b : Bool) (hb : b = true ↔ Q j) (hr : ∀ j', j' ≤ n → j' ≠ j → (P j' ↔ Q j')) : FRat B (w.setCell ⟨g, j, none⟩ (.bool b)) g n Q := by
 obtain ⟨row, h1, h2, h3⟩ := h.row
 refine ⟨h.hb, row.setIfInBounds j (.bool b), ?_, by simp [h2], fun j' hj' => ?_⟩
 ·simp only [World.setCell]
  rw [Array.getElem?_modify]
  simp [h1]
 ·by_cases ej : j' = j
  ·subst ej
   rw [Array.getElem?_setIfInBounds_self_of_lt (by omega)]
   rw [show b = pB (Q j') from bool_ext (hb.trans pB_iff.symm)]
  ·rw [Array.getElem?_setIfInBounds_ne (fun h => ej h.symm), h3 j' hj', pB_congr (hr j' hj' ej)]

/-- a row of flags as a value -/
def FR (B : Nat) (w : World) (v : Value) (n : Nat) (P : Nat → Prop) : Prop := ∃ g, v = .slice (some ⟨g, 0, none⟩) (n + 1) (n + 1) ∧ FRat B w g n P
theorem FR.bel {B : Nat} {w w' : World} {v : Value} {n : Nat} {P : Nat → Prop} (h : FR B w v n P) (hb : Below w.heap.size w w') : FR B w' v n P := by
 obtain ⟨g, e, h⟩ := h
 exact ⟨g, e, h.bel hb⟩
theorem FR.mono {B B' : Nat} {w : World} {v : Value} {n : Nat} {P : Nat → Prop} (h : FR B w v n P) (hB : B' ≤ B) : FR B' w v n P := by
 obtain ⟨g, e, h⟩ := h
 exact ⟨g, e, h.mono hB⟩
theorem FR.ext {B : Nat} {w : World} {v : Value} {n : Nat} {P Q : Nat → Prop} (h : FR B w v n P) (e : ∀ j, j ≤ n → (P j ↔ Q j)) : FR B w v n Q := by
 obtain ⟨g, e1, h⟩ := h
 exact ⟨g, e1, h.ext e⟩
/-- a row that is made -/
theorem FRat.made (w : World) {n : Nat} {M : Array Value} (hM : M.size = n + 1 ∧ ∀ j, j ≤ n → M[j]? = some (.bool false)) : FRat w.heap.size (w.alloc (.cells M 4)) w.heap.size n (fun _ => False) :=
 ⟨Nat.le_refl _, M, at_push w _, hM.1, fun j hj => by rw [hM.2 j hj, show pB False = false from Bool.eq_false_iff.2 (fun h => pB_iff.1 h)]⟩
theorem make_flags (n : Nat) (hn : n ≤ 100000) : ∃ M : Array Value, (M.size = n + 1 ∧ ∀ j, j ≤ n → M[j]? = some (.bool false)) ∧ ∀ W : World, (Instr.makeSlice 42 (.int .i64 ((n : Int) + 1)) (.int .i64 ((n : Int) + 1))).run Tryd.prog W = .ok (.slice (some ⟨W.heap.size, 0, none⟩) (n + 1) (n + 1)) (W.alloc (.cells M 4)) := by
 obtain ⟨i4, hi4, hz4, hs4, hb4⟩ := info_parts parts4
 refine ⟨_, made_flags n, fun W => ?_⟩
 have h := run_make (P := Tryd.prog) W 42 4 i4 (.bool false) Tryd.underlying42 hi4 hz4 .i64 .i64 ((n : Int) + 1) ((n : Int) + 1) (by omega) (by omega) (by rw [hb4]; omega) (by omega)
 rw [show ((n : Int) + 1).toNat = n + 1 by omega, hs4, Nat.mul_one] at h
 exact h

set_option maxRecDepth 100000 in
set_option maxHeartbeats 4000000 in
/-- either -/
theorem either58_any {Ba Bb : Nat} {w : World} {va vb : Value} {n : Nat} {P Q : Nat → Prop} (hn : n ≤ 100000) (ha : FR Ba w va n P) (hb : FR Bb w vb n Q) :
  Calls Tryd.prog 58 #[va, vb] w fun e w' => ∃ v, e = .returned v ∧ FR w.heap.size w' v n (fun j => P j ∨ Q j) ∧ Below w.heap.size w w' := by
 obtain ⟨ga, rfl, ha⟩ := ha
 obtain ⟨gb, rfl, hb⟩ := hb
 have HA := Lib.hid (fun W (h : Below w.heap.size w W) => ha.bel h)
 have HB := Lib.hid (fun W (h : Below w.heap.size w W) => hb.bel h)
 obtain ⟨M, hM, hmk⟩ := make_flags n hn
 have HM0 := Lib.hid (FRat.made w hM)
 have HB0 := Lib.hid ((Below.refl _ w).alloc (Nat.le_refl _) (.cells M 4))
 clear ha hb hM
 go_enter Tryd.func58, Tryd.ntmps58
 go_upto_region 3 with (fail)
 clear hmk
 obtain ⟨W0, hW0⟩ : ∃ y, w.alloc (.cells M 4) = y := ⟨_, rfl⟩
 rw [hW0] at HM0 HB0 ⊢
 clear hW0
 go_loopw [6] (fun u6 wr => ∃ k : Nat, k ≤ n + 1 ∧ u6 = .int .i64 k ∧ FRat w.heap.size wr w.heap.size n (fun j => j < k ∧ (P j ∨ Q j)) ∧ Below w.heap.size w wr) (fun u6 _ => n + 2 - (intOf u6).toNat)
 case atStart => exact ⟨0, Nat.zero_le _, rfl, HM0.out.ext (fun j _ => by simp), HB0.out⟩
 case round =>
  obtain ⟨k, hk, rfl, hm, hbw⟩ := hrel
  have HR := Lib.hid (And.intro hm hbw)
  by_cases hkn : k ≤ n
  ·have hki1 : (k : Int) < (n : Int) + 1 := by omega
   have hk1 : k < n + 1 := by omega
   have c2 := hm.flag hkn
   have c3 := hm.frozen k
   generalize pB (k < k ∧ (P k ∨ Q k)) = old at c2
   have c5 := (HA.out wr hbw).flag hkn
   have c7 := (HB.out wr hbw).flag hkn
   have hfin : ∀ b : Bool, (b = true ↔ (P k ∨ Q k)) → FRat w.heap.size (wr.setCell ⟨w.heap.size, k, none⟩ (.bool b)) w.heap.size n (fun j => j < k + 1 ∧ (P j ∨ Q j)) ∧ Below w.heap.size w (wr.setCell ⟨w.heap.size, k, none⟩ (.bool b)) := fun b hb =>
    ⟨hm.set hkn b (hb.trans ⟨fun h => ⟨Nat.lt_succ_self _, h⟩, fun h => h.2⟩) (fun j' _ hne => ⟨fun h => ⟨by omega, h.2⟩, fun h => ⟨by omega, h.2⟩⟩), hbw.setCell (Nat.le_refl _) _⟩
   have HFIN := Lib.hid hfin
   obtain ⟨x, hx⟩ : ∃ x, pB (P k) = x := ⟨_, rfl⟩
   obtain ⟨y, hy⟩ : ∃ y, pB (Q k) = y := ⟨_, rfl⟩
   rw [hx] at c5
   rw [hy] at c7
   have HF := Lib.hid (show ((x || y) = true ↔ (P k ∨ Q k)) by rw [← hx, ← hy, Bool.or_eq_true, pB_iff, pB_iff])
   clear hm hbw hfin hx hy
   cases x with
   | true =>
    go_wp2_with fail
    go_roundw
    case rel => exact ⟨k + 1, by omega, by go_num, HFIN.out true HF.out⟩
    case measure => simp [intOf]; omega
   | false =>
    go_wp2_with fail
    go_roundw
    case rel => exact ⟨k + 1, by omega, by go_num, HFIN.out y HF.out⟩
    case measure => simp [intOf]; omega
  ·have hki : ¬ (k : Int) < (n : Int) + 1 := by omega
   go_wp2_with fail
   go_ret
   exact ⟨_, rfl, ⟨_, rfl, HR.out.1.ext (fun j hj => ⟨fun h => h.2, fun h => ⟨by omega, h⟩⟩)⟩, HR.out.2⟩
set_option maxRecDepth 100000 in
set_option maxHeartbeats 4000000 in
theorem many48_any : ∀ x : X, x.sz ≤ 100000 → ∀ (M : Nat) (w : World) (v : Value), XV M w v x → M ≤ w.heap.size → Calls Tryd.prog 48 #[v] w fun e w' => e = .returned (.int .i64 x.pn) ∧ Below w.heap.size w w' := by
 intro x
 induction x using X.ind' with
 | h x ih =>
  intro hs M w v hx hM
  obtain ⟨kv, rfl, hr⟩ := hx
  obtain ⟨A, c, rfl⟩ := hr.form
  have hx0 := at_push w (.cells #[.int .i64 x.kind, .string x.lab, .slice A x.kids.length c] 25)
  have hb := (Below.refl _ w).alloc (Nat.le_refl _) (.cells #[.int .i64 x.kind, .string x.lab, .slice A x.kids.length c] 25)
  have c0 := cell_of_row _ _ 0 _ 25 (0, 0) hx0
  have c1 := cell_of_row _ _ 1 _ 25 (0, 0) hx0
  have c2 := cell_of_row _ _ 2 _ 25 (0, 0) hx0
  simp only [List.getElem?_toArray, List.getElem?_cons_zero, List.getElem?_cons_succ] at c0 c1 c2
  by_cases h1 : x.kind = 1
  ·rw [X.pn_eq, if_pos h1]
   rw [h1] at c0 hb ⊢
   have HB := Lib.hid hb
   have c0' : (w.alloc (.cells #[.int .i64 1, .string x.lab, .slice A x.kids.length c] 25)).cell? ⟨w.heap.size, 0, none⟩ = some (.int .i64 1) := cell_of_row _ _ 0 _ 25 (0, 0) (at_push w _)
   clear hx0 hb hr ih c0 c1 c2
   go_enter Tryd.func48, Tryd.ntmps48
   go_wp2_with fail
   go_ret
   exact ⟨rfl, HB.out⟩
  ·have ek : (x.kind == 1) = false := by simp [h1]
   have hpn : x.pn = pnL x.kids := by rw [X.pn_eq, if_neg h1]
   rw [hpn]
   obtain ⟨n, hn⟩ : ∃ n, x.kids.length = n := ⟨_, rfl⟩
   have HN := Lib.hid hn
   have HB := Lib.hid hb
   have HX0 := Lib.hid hx0
   have hXR := hr.bel (hb.mono hM)
   have HXR := Lib.hid hXR
   have hkl : n ≤ 100000 := by have := len_szL x.kids; have := x.sz_eq; omega
   have hpl : pnL x.kids ≤ 100000 := by have := pn_szL x.kids; have := x.sz_eq; omega
   have hkz : ∀ y ∈ x.kids, y.sz ≤ 100000 := fun y hy => by have := szL_mem hy; have := x.sz_eq; omega
   have HIH := Lib.hid (fun y (hy : y ∈ x.kids) => ih y hy (hkz y hy))
   rw [hn] at HX0 HB HXR c0 c1 c2 ⊢
   have htl : ∀ k, pnL (x.kids.take k) ≤ 100000 := fun k => Nat.le_trans (pnL_take_le _ _) hpl
   have HTL := Lib.hid htl
   clear hx0 hb hr ih h1 hpn hn hXR hpl hkz hs htl
   generalize x.kids = ks at *
   generalize x.kind = kk at *
   go_enter Tryd.func48, Tryd.ntmps48
   go_upto_region 5 with (fail)
   try simp only [ek]
   clear ek
   obtain ⟨W0, hW0⟩ : ∃ y, w.alloc (.cells #[.int .i64 kk, .string x.lab, .slice A n c] 25) = y := ⟨_, rfl⟩
   rw [hW0] at HX0 HB HXR c0 c1 c2 ⊢
   clear hW0 c0 c1 c2
   go_loopw [3, 4] (fun s i wr => ∃ k : Nat, k ≤ n ∧ i = .int .i64 k ∧ s = .int .i64 (pnL (ks.take k) : Nat) ∧ Below W0.heap.size W0 wr) (fun _ i _ => n - (intOf i).toNat)
   case atStart => exact ⟨0, Nat.zero_le _, rfl, by simp [pnL_nil], Below.refl _ _⟩
   case round =>
    obtain ⟨k, hk, rfl, rfl, hbw⟩ := hrel
    have HBW := Lib.hid hbw
    have hxw := (hbw.block _ (Array.getElem?_eq_some_iff.1 HX0.out).1).trans HX0.out
    have c2 := cell_of_row _ _ 2 _ 25 (0, 0) hxw
    simp only [List.getElem?_toArray, List.getElem?_cons_zero, List.getElem?_cons_succ] at c2
    have htk := HTL.out k
    by_cases hlt : k < n
    ·have e1 : k < ks.length := by have := HN.out; omega
     obtain ⟨ad, kv, f1, _, q0, q1, q2, q3⟩ := XR.at3 (HXR.out.bel (hbw.mono (Nat.le_trans hM HB.out.size))) e1
     subst f1
     have htk2 := HTL.out (k + 1)
     rw [pnL_take e1] at htk2
     have hnext := pnL_take e1
     have HC := Lib.hid (HIH.out ks[k] (List.getElem_mem e1) M wr (.agg #[.int .i64 ks[k].kind, .string ks[k].lab, kv]) ⟨kv, rfl, q3⟩ (Nat.le_trans hM (Nat.le_trans HB.out.size hbw.size)))
     have HNX := Lib.hid hnext
     clear hbw hxw hnext q3
     go_wp2_with (go_at_call 48; refine HC.out.mono ?_; rintro e w2 ⟨rfl, hb2⟩; have HB2 := Lib.hid (HBW.out.trans (hb2.mono HBW.out.size)); clear hb2)
     go_roundw
     case rel => exact ⟨k + 1, by omega, by go_num, by rw [HNX.out]; go_num, HB2.out⟩
     case measure => simp [intOf]; omega
    ·have hkn : k = n := by omega
     have : ks.take k = ks := List.take_of_length_le (by have := HN.out; omega)
     rw [this]
     clear this hbw hxw
     go_wp2_with fail
     go_ret
     exact ⟨rfl, HB.out.trans (HBW.out.mono HB.out.size)⟩
end Go.Proofs.YtnccgaanfjaimaaDoor

namespace Go.Proofs.YtnccgaanfjaimaaDoor
open Go.ChangeShapes Go.WideShapes Go.ChangeAt Go.RowKit
set_option linter.unusedVariables false
set_option linter.unusedSimpArgs false

attribute [local go_sem] Oper.semAt_some

/-- what lies below B, and what is no Nfa, no row of texts, no row of the square, lies as it lay -/
structure Kr (B : Nat) (r : Nat → Nat) (n : Nat) (X Y : World) : Prop where
 os : Y.os = X.os
 tape : Y.tape = X.tape
 output : Y.output = X.output
 size : X.heap.size ≤ Y.heap.size
 low : ∀ k, k < B → Y.heap[k]? = X.heap[k]?
 cells : ∀ (k : Nat) (v : Array Value) (t : TypeId) (fr : Nat × Nat), X.heap[k]? = some (.cells v t fr) → t ≠ 45 → t ≠ 9 → (t = 4 → ∀ i, i ≤ n → k ≠ r i) → Y.heap[k]? = some (.cells v t fr)
theorem Kr.refl (B : Nat) (r : Nat → Nat) (n : Nat) (X : World) : Kr B r n X X := ⟨rfl, rfl, rfl, Nat.le_refl _, fun _ _ => rfl, fun _ _ _ _ h _ _ _ => h⟩
theorem Kr.trans {B : Nat} {r : Nat → Nat} {n : Nat} {X Y Z : World} (h : Kr B r n X Y) (k : Kr B r n Y Z) : Kr B r n X Z := ⟨k.os.trans h.os, k.tape.trans h.tape, k.output.trans h.output, Nat.le_trans h.size k.size, fun i hi => (k.low i hi).trans (h.low i hi), fun i v t fr hi h1 h2 h3 => k.cells i v t fr (h.cells i v t fr hi h1 h2 h3) h1 h2 h3⟩
theorem Kr.of_below {B : Nat} {r : Nat → Nat} {n : Nat} {X Y : World} (h : Below X.heap.size X Y) (hB : B ≤ X.heap.size) : Kr B r n X Y := ⟨h.os, h.tape, h.output, h.size, fun k hk => h.block k (by omega), fun k v t fr hk _ _ _ => (h.block k (Array.getElem?_eq_some_iff.1 hk).1).trans hk⟩
theorem Kr.below {B : Nat} {r : Nat → Nat} {n : Nat} {X Y : World} (h : Kr B r n X Y) : Below B X Y := ⟨h.os, h.tape, h.output, h.size, h.low⟩
theorem Kr.low_mono {B B' : Nat} {r : Nat → Nat} {n : Nat} {X Y : World} (h : Kr B r n X Y) (hB : B' ≤ B) : Kr B' r n X Y := ⟨h.os, h.tape, h.output, h.size, fun k hk => h.low k (by omega), h.cells⟩
theorem Kr.set {B : Nat} {r : Nat → Nat} {n : Nat} {w : World} {N k : Nat} {a : Array Value} {t : TypeId} {fr : Nat × Nat} (h : w.heap[N]? = some (.cells a t fr)) (ht : t = 45 ∨ t = 9 ∨ (t = 4 ∧ ∃ i, i ≤ n ∧ N = r i)) (hB : B ≤ N) (v : Value) : Kr B r n w (w.setCell ⟨N, k, none⟩ v) := by
 refine ⟨rfl, rfl, rfl, by simp, fun j hj => Below.heap_setCell _ _ _ _ (by show j ≠ N; omega), fun j v' t' fr' hj h1 h2 h3 => (Below.heap_setCell _ _ _ _ (fun e => ?_)).trans hj⟩
 obtain rfl : j = N := e
 rw [h] at hj
 injection hj with hj
 injection hj with _ hj _
 subst hj
 rcases ht with ht | ht | ⟨ht, i, hi, e⟩
 ·exact h1 ht
 ·exact h2 ht
 ·exact h3 ht i hi e
theorem Kr.grownL {B n' n : Nat} {r : Nat → Nat} {X Y : World} {v : Value} {xs : List Value} (h : X.grownBy Y v.ownBlock) (hr : X.ownsRow B 9 1 v n' xs) (hB : B ≤ X.heap.size) : Kr B r n X Y := by
 have hk := Kn.grownL h hr hB
 have hb := hk.below
 refine ⟨hb.os, hb.tape, hb.output, hb.size, hb.block, fun k v' t fr hk1 h1 h2 _ => ?_⟩
 have hlt := (Array.getElem?_eq_some_iff.1 hk1).1
 rw [h.block k hlt (fun e => ?_)]
 ·exact hk1
 ·rcases hr.2 with ⟨he, _⟩ | ⟨g, cap, cur, he, _, hgg, _⟩
  ·rw [he] at e; cases e
  ·rw [he] at e
   injection e with e
   subst e
   rw [hk1] at hgg
   injection hgg with hgg
   injection hgg with _ hgg _
   exact h2 hgg
theorem Kr.boxed {B A n : Nat} {r : Nat → Nat} {X Y : World} {a : Array Value} {t : TypeId} {fr : Nat × Nat} (h : Kr B r n X Y) (hb : X.heap[A]? = some (.cells a t fr)) (h1 : t ≠ 45) (h2 : t ≠ 9) (h3 : t ≠ 4) : Y.heap[A]? = some (.cells a t fr) := h.cells _ _ _ _ hb h1 h2 (fun e => absurd e h3)
theorem FRat.kr {B C : Nat} {w w' : World} {g n m : Nat} {r : Nat → Nat} {P : Nat → Prop} (h : FRat B w g m P) (hk : Kr C r n w w') (hg : ∀ i, i ≤ n → g ≠ r i) : FRat B w' g m P := by
 obtain ⟨row, h1, h2⟩ := h.row
 exact ⟨h.hb, row, hk.cells _ _ _ _ h1 (by decide) (by decide) (fun _ => hg), h2⟩

/-- what stays of the document's Nfa while it is made -/
structure RK where
 R : Nat
 g : Nat
 r : Nat → Nat
 n : Nat
 c : Nat
 vF : Value
 vL : Value
 E : Bool
 xk : Int
 xl : ByteArray
 xv : Value
def RK.cl (K : RK) (vl : Value) : List Value := [vl, K.vF, K.vL, .slice (some ⟨K.g, 0, none⟩) (K.n + 1) K.c, .bool K.E, .int .i64 K.xk, .string K.xl, K.xv]
structure RN (B : Nat) (w : World) (K : RK) (vl : Value) (labs : List ByteArray) (P : Nat → Nat → Prop) : Prop where
 hB : B ≤ K.R
 blk : w.heap[K.R]? = some (.cells (K.cl vl).toArray 45 (0, 0))
 lab : w.ownsRow B 9 1 vl labs.length (labs.map Value.string)
 nx : MtAt B w K.g K.r K.n (pF P)
theorem RN.lt {B : Nat} {w : World} {K : RK} {vl : Value} {labs : List ByteArray} {P : Nat → Nat → Prop} (h : RN B w K vl labs P) : K.R < w.heap.size := (Array.getElem?_eq_some_iff.1 h.blk).1
theorem RN.bel {B : Nat} {w w' : World} {K : RK} {vl : Value} {labs : List ByteArray} {P : Nat → Nat → Prop} (h : RN B w K vl labs P) (hb : Below w.heap.size w w') : RN B w' K vl labs P :=
 ⟨h.hB, (hb.block _ h.lt).trans h.blk, own_bel h.lab hb, h.nx.bel hb⟩
theorem RN.ext {B : Nat} {w : World} {K : RK} {vl : Value} {labs : List ByteArray} {P P' : Nat → Nat → Prop} (h : RN B w K vl labs P) (e : ∀ i j, i ≤ K.n → j ≤ K.n → (P i j ↔ P' i j)) : RN B w K vl labs P' :=
 ⟨h.hB, h.blk, h.lab, h.nx.ext_p e⟩
theorem RN.cells {B : Nat} {w : World} {K : RK} {vl : Value} {labs : List ByteArray} {P : Nat → Nat → Prop} (h : RN B w K vl labs P) : w.cell? ⟨K.R, 0, none⟩ = some vl ∧ w.cell? ⟨K.R, 1, none⟩ = some K.vF ∧ w.cell? ⟨K.R, 2, none⟩ = some K.vL ∧ w.cell? ⟨K.R, 3, none⟩ = some (.slice (some ⟨K.g, 0, none⟩) (K.n + 1) K.c) ∧ w.cell? ⟨K.R, 4, none⟩ = some (.bool K.E) :=
 ⟨cell_of_row _ _ 0 _ 45 (0, 0) h.blk, cell_of_row _ _ 1 _ 45 (0, 0) h.blk, cell_of_row _ _ 2 _ 45 (0, 0) h.blk, cell_of_row _ _ 3 _ 45 (0, 0) h.blk, cell_of_row _ _ 4 _ 45 (0, 0) h.blk⟩
theorem RN.frz {B : Nat} {w : World} {K : RK} {vl : Value} {labs : List ByteArray} {P : Nat → Nat → Prop} (h : RN B w K vl labs P) (k : Nat) : w.frozen? ⟨K.R, k, none⟩ = false := by simp [World.frozen?, h.blk]
/-- a flag more -/
theorem RN.set {B : Nat} {w : World} {K : RK} {vl : Value} {labs : List ByteArray} {P P' : Nat → Nat → Prop} (h : RN B w K vl labs P) {i j : Nat} (hi : i ≤ K.n) (hj : j ≤ K.n) (b : Bool) (hb : b = true ↔ P' i j) (hr : ∀ i' j', ¬ (i' = i ∧ j' = j) → (P i' j' ↔ P' i' j')) :
  RN B (w.setCell ⟨K.r i, j, none⟩ (.bool b)) K vl labs P' ∧ Kr B K.r K.n w (w.setCell ⟨K.r i, j, none⟩ (.bool b)) := by
 obtain ⟨hBi, row, h1, h2, h3⟩ := h.nx.row i hi
 have hne : K.R ≠ K.r i := by
  intro e
  have := h.blk
  rw [e, h1] at this
  injection this with this
  injection this with _ this _
  cases this
 exact ⟨⟨h.hB, (Below.heap_setCell _ _ _ _ hne).trans h.blk, ownsRow_setCell_other h.lab (a := ⟨K.r i, j, none⟩) (row_ne h.lab h1 (by decide)) _, h.nx.set_p hi hj b hb hr⟩, Kr.set h1 (.inr (.inr ⟨rfl, i, hi, rfl⟩)) hBi _⟩

set_option maxRecDepth 100000 in
set_option maxHeartbeats 4000000 in
/-- first ones behind last ones -/
theorem link71_any {B B1 B2 : Nat} {w : World} {K : RK} {vl v1 v2 : Value} {labs : List ByteArray} {P : Nat → Nat → Prop} {P1 P2 : Nat → Prop} (hn : K.n ≤ 100000) (h : RN B w K vl labs P) {g1 g2 : Nat}
  (h1 : FRat B1 w g1 K.n P1) (h2 : FRat B2 w g2 K.n P2) (d1 : ∀ i, i ≤ K.n → g1 ≠ K.r i) (d2 : ∀ i, i ≤ K.n → g2 ≠ K.r i) :
  Calls Tryd.prog 71 #[.pointer (some ⟨K.R, 0, none⟩), .slice (some ⟨g1, 0, none⟩) (K.n + 1) (K.n + 1), .slice (some ⟨g2, 0, none⟩) (K.n + 1) (K.n + 1)] w fun e w' => e = .returned (.tuple #[]) ∧ RN B w' K vl labs (fun i j => P i j ∨ (P1 i ∧ P2 j)) ∧ Kr B K.r K.n w w' := by
 have H1 := Lib.hid (fun W (hk : Kr B K.r K.n w W) => h1.kr hk d1)
 have H2 := Lib.hid (fun W (hk : Kr B K.r K.n w W) => h2.kr hk d2)
 have H := Lib.hid h
 obtain ⟨R, hR⟩ : ∃ y, K.R = y := ⟨_, rfl⟩
 obtain ⟨n, hnn⟩ : ∃ y, K.n = y := ⟨_, rfl⟩
 have HRn := Lib.hid (And.intro hR hnn)
 rw [hR, hnn]
 rw [hnn] at hn
 clear h h1 h2 d1 d2 hR hnn
 go_enter Tryd.func71, Tryd.ntmps71
 go_upto_region 1 with (fail)
 go_loopw [6, 7] (fun u6 u7 wr => ∃ k : Nat, k ≤ n + 1 ∧ u6 = .int .i64 k ∧ RN B wr K vl labs (fun i j => P i j ∨ (P1 i ∧ P2 j ∧ i < k)) ∧ Kr B K.r K.n w wr) (fun u6 u7 _ => n + 2 - (intOf u6).toNat)
 case atStart => exact ⟨0, Nat.zero_le _, rfl, H.out.ext (fun i j _ _ => by simp), Kr.refl _ _ _ _⟩
 case round =>
  obtain ⟨k, hk, rfl, hm, hb⟩ := hrel
  have HR := Lib.hid (And.intro hm hb)
  clear hm hb
  by_cases hkn : k ≤ n
  ·have hki1 : (k : Int) < (n : Int) + 1 := by omega
   go_upto_region 4 with (fail)
   go_loopw [7] (fun u7 wr => ∃ m : Nat, m ≤ n + 1 ∧ u7 = .int .i64 m ∧ RN B wr K vl labs (fun i j => P i j ∨ (P1 i ∧ P2 j ∧ (i < k ∨ (i = k ∧ j < m)))) ∧ Kr B K.r K.n w wr) (fun u7 _ => n + 2 - (intOf u7).toNat)
   case atStart => exact ⟨0, by omega, rfl, HR.out.1.ext (fun i j _ _ => by simp), HR.out.2⟩
   case round =>
    clear HR
    obtain ⟨m, hmn, rfl, hm, hb⟩ := hrel
    have HR := Lib.hid (And.intro hm hb)
    by_cases hml : m ≤ n
    ·have hmi : (m : Int) < (n : Int) + 1 := by omega
     have hm1 : m < n + 1 := by omega
     have hk1 : k < n + 1 := by omega
     have c1 := (H1.out wr hb).flag (j := k) (by rw [HRn.out.2]; exact hkn)
     have c2 := (H2.out wr hb).flag (j := m) (by rw [HRn.out.2]; exact hml)
     have c3 := hm.cells.2.2.2.1
     have c4 := hm.nx.cell (i := k) (by rw [HRn.out.2]; exact hkn)
     have c5 := hm.nx.flag (i := k) (j := m) (by rw [HRn.out.2]; exact hkn) (by rw [HRn.out.2]; exact hml)
     have c6 := hm.nx.frozen (i := k) (by rw [HRn.out.2]; exact hkn) m
     rw [HRn.out.1, HRn.out.2] at c3
     rw [HRn.out.2] at c4
     generalize K.c = cc at c3
     generalize K.g = gg at c3 c4
     obtain ⟨rk, hrk⟩ : ∃ y, K.r k = y := ⟨_, rfl⟩
     have HRK := Lib.hid hrk
     rw [hrk] at c4 c5 c6
     generalize pF _ k m = old at c5
     obtain ⟨x, hx⟩ : ∃ x, pB (P1 k) = x := ⟨_, rfl⟩
     obtain ⟨y, hy⟩ : ∃ y, pB (P2 m) = y := ⟨_, rfl⟩
     rw [hx] at c1
     rw [hy] at c2
     have HX := Lib.hid hx
     have HY := Lib.hid hy
     have hno : ¬ (P1 k ∧ P2 m) → RN B wr K vl labs (fun i j => P i j ∨ (P1 i ∧ P2 j ∧ (i < k ∨ (i = k ∧ j < m + 1)))) ∧ Kr B K.r K.n w wr := fun hne =>
      ⟨HR.out.1.ext (fun i j _ _ => by
       constructor
       ·rintro (h | ⟨h1, h2, h3⟩)
        ·exact .inl h
        ·exact .inr ⟨h1, h2, by omega⟩
       ·rintro (h | ⟨h1, h2, h3 | ⟨h3, h4⟩⟩)
        ·exact .inl h
        ·exact .inr ⟨h1, h2, .inl h3⟩
        ·by_cases e : j = m
         ·subst h3; subst e; exact absurd ⟨h1, h2⟩ hne
         ·exact .inr ⟨h1, h2, .inr ⟨h3, by omega⟩⟩), HR.out.2⟩
     have HNO := Lib.hid hno
     clear hm hb hx hy hrk hno
     cases x with
     | false =>
      go_wp2_with fail
      go_roundw
      case rel => exact ⟨m + 1, by omega, by go_num, HNO.out (fun h => by have := HX.out; rw [pB_iff.2 h.1] at this; cases this)⟩
      case measure => simp [intOf]; omega
     | true =>
      cases y with
      | false =>
       go_wp2_with fail
       go_roundw
       case rel => exact ⟨m + 1, by omega, by go_num, HNO.out (fun h => by have := HY.out; rw [pB_iff.2 h.2] at this; cases this)⟩
       case measure => simp [intOf]; omega
      | true =>
       go_wp2_with fail
       go_roundw
       case rel =>
        refine ⟨m + 1, by omega, by go_num, ?_⟩
        have h4 := HR.out.1.set (P' := fun i j => P i j ∨ (P1 i ∧ P2 j ∧ (i < k ∨ (i = k ∧ j < m + 1)))) (i := k) (j := m) (by rw [HRn.out.2]; exact hkn) (by rw [HRn.out.2]; exact hml) true
         ⟨fun _ => .inr ⟨pB_iff.1 HX.out, pB_iff.1 HY.out, .inr ⟨rfl, Nat.lt_succ_self _⟩⟩, fun _ => rfl⟩ (fun i' j' hne => by
          constructor
          ·rintro (h | ⟨h1, h2, h3⟩)
           ·exact .inl h
           ·exact .inr ⟨h1, h2, by omega⟩
          ·rintro (h | ⟨h1, h2, h3⟩)
           ·exact .inl h
           ·exact .inr ⟨h1, h2, by omega⟩)
        rw [HRK.out] at h4
        exact ⟨h4.1, HR.out.2.trans h4.2⟩
       case measure => simp [intOf]; omega
    ·have hmi : ¬ (m : Int) < (n : Int) + 1 := by omega
     obtain rfl : m = n + 1 := by omega
     go_wp2_with fail
     go_roundw
     case rel =>
      refine ⟨k + 1, by omega, by go_num, HR.out.1.ext (fun i j _ hj => ?_), HR.out.2⟩
      rw [HRn.out.2] at hj
      constructor
      ·rintro (h | ⟨h1, h2, h3⟩)
       ·exact .inl h
       ·exact .inr ⟨h1, h2, by omega⟩
      ·rintro (h | ⟨h1, h2, h3⟩)
       ·exact .inl h
       ·exact .inr ⟨h1, h2, by omega⟩
     case measure => simp [intOf]; omega
  ·have hki : ¬ (k : Int) < (n : Int) + 1 := by omega
   go_wp2_with fail
   refine bodyPost_end (v := .tuple #[]) (results_none rfl _ _ _) rfl ?_
   refine ⟨rfl, HR.out.1.ext (fun i j hi _ => ?_), (by have h := HR.out.2; rw [HRn.out.2] at h; exact h)⟩
   rw [HRn.out.2] at hi
   constructor
   ·rintro (h | ⟨h1, h2, h3⟩)
    ·exact .inl h
    ·exact .inr ⟨h1, h2⟩
   ·rintro (h | ⟨h1, h2⟩)
    ·exact .inl h
    ·exact .inr ⟨h1, h2, by omega⟩
end Go.Proofs.YtnccgaanfjaimaaDoor

namespace Go.Proofs.YtnccgaanfjaimaaDoor
open Go.ChangeShapes Go.WideShapes Go.ChangeAt Go.RowKit
set_option linter.unusedVariables false
set_option linter.unusedSimpArgs false

attribute [local go_sem] Oper.semAt_some

section
variable (P Q : Nat → Nat → Prop)
/-- by one, and the other behind it -/
def Jn : Nat → Nat → Prop := fun i j => ∃ l, i ≤ l ∧ l ≤ j ∧ P i l ∧ Q l j
def JK (i k : Nat) : Nat → Nat → Prop := fun i' j' => (i' < i ∧ Jn P Q i' j') ∨ (i' = i ∧ ∃ l, i' ≤ l ∧ l < k ∧ l ≤ j' ∧ P i' l ∧ Q l j')
def JJ (i k j : Nat) : Nat → Nat → Prop := fun i' j' => JK P Q i k i' j' ∨ (i' = i ∧ k ≤ j' ∧ j' < j ∧ P i' k ∧ Q k j')
variable {P Q}
theorem JK_start (i i' j' : Nat) : (i' < i ∧ Jn P Q i' j') ↔ JK P Q i i i' j' := by
 constructor
 ·exact .inl
 ·rintro (h | ⟨rfl, l, h1, h2, _⟩)
  ·exact h
  ·omega
theorem JJ_start (i k i' j' : Nat) : JK P Q i k i' j' ↔ JJ P Q i k k i' j' := by
 constructor
 ·exact .inl
 ·rintro (h | ⟨rfl, h1, h2, _⟩)
  ·exact h
  ·omega
theorem JJ_store {i k j : Nat} (hkj : k ≤ j) (hP : P i k) : (JJ P Q i k j i j ∨ Q k j) ↔ JJ P Q i k (j + 1) i j := by
 constructor
 ·rintro ((h | ⟨h1, h2, h3, h4⟩) | h)
  ·exact .inl h
  ·exact .inr ⟨h1, h2, Nat.lt_succ_of_lt h3, h4⟩
  ·exact .inr ⟨rfl, hkj, Nat.lt_succ_self _, hP, h⟩
 ·rintro (h | ⟨h1, h2, h3, h4, h5⟩)
  ·exact .inl (.inl h)
  ·exact .inr h5
theorem JJ_other {i k j i' j' : Nat} (h : ¬ (i' = i ∧ j' = j)) : JJ P Q i k j i' j' ↔ JJ P Q i k (j + 1) i' j' := by
 constructor
 ·rintro (h1 | ⟨h1, h2, h3, h4⟩)
  ·exact .inl h1
  ·exact .inr ⟨h1, h2, Nat.lt_succ_of_lt h3, h4⟩
 ·rintro (h1 | ⟨h1, h2, h3, h4⟩)
  ·exact .inl h1
  ·exact .inr ⟨h1, h2, by omega, h4⟩
theorem JJ_not {i k j i' j' : Nat} (hP : ¬ P i k) : JJ P Q i k j i' j' ↔ JK P Q i (k + 1) i' j' := by
 constructor
 ·rintro ((h | ⟨h1, l, h2, h3, h4⟩) | ⟨rfl, h2, h3, h4, _⟩)
  ·exact .inl h
  ·exact .inr ⟨h1, l, h2, Nat.lt_succ_of_lt h3, h4⟩
  ·exact absurd h4 hP
 ·rintro (h | ⟨rfl, l, h2, h3, h4, h5, h6⟩)
  ·exact .inl (.inl h)
  ·by_cases e : l = k
   ·subst e; exact absurd h5 hP
   ·exact .inl (.inr ⟨rfl, l, h2, by omega, h4, h5, h6⟩)
theorem JJ_end {n i k j i' j' : Nat} (hik : i ≤ k) (hj : n < j) (hj' : j' ≤ n) : JJ P Q i k j i' j' ↔ JK P Q i (k + 1) i' j' := by
 constructor
 ·rintro ((h | ⟨h1, l, h2, h3, h4⟩) | ⟨rfl, h2, h3, h4, h5⟩)
  ·exact .inl h
  ·exact .inr ⟨h1, l, h2, Nat.lt_succ_of_lt h3, h4⟩
  ·exact .inr ⟨rfl, k, hik, Nat.lt_succ_self _, h2, h4, h5⟩
 ·rintro (h | ⟨rfl, l, h2, h3, h4, h5, h6⟩)
  ·exact .inl (.inl h)
  ·by_cases e : l = k
   ·subst e; exact .inr ⟨rfl, h4, by omega, h5, h6⟩
   ·exact .inl (.inr ⟨rfl, l, h2, by omega, h4, h5, h6⟩)
theorem JK_end {n i k i' j' : Nat} (hk : n < k) (hj' : j' ≤ n) : JK P Q i k i' j' ↔ (i' < i + 1 ∧ Jn P Q i' j') := by
 constructor
 ·rintro (⟨h1, h2⟩ | ⟨rfl, l, h2, h3, h4, h5⟩)
  ·exact ⟨by omega, h2⟩
  ·exact ⟨Nat.lt_succ_self _, l, h2, h4, h5⟩
 ·rintro ⟨h1, l, h2, h3, h4⟩
  by_cases e : i' = i
  ·exact .inr ⟨e, l, h2, by omega, h3, h4⟩
  ·exact .inl ⟨by omega, l, h2, h3, h4⟩
end

set_option maxRecDepth 100000 in
set_option maxHeartbeats 8000000 in
theorem joined62_any {Ba Bb : Nat} {w : World} {va vb : Value} {n : Nat} {P Q : Nat → Nat → Prop} (hn : n ≤ 100000) (ha : Mt Ba w va n (pF P)) (hb : Mt Bb w vb n (pF Q)) :
  Calls Tryd.prog 90 #[va, vb] w fun e w' => ∃ v, e = .returned v ∧ Mt w.heap.size w' v n (pF (Jn P Q)) ∧ Below w.heap.size w w' := by
 obtain ⟨ga, ca, ra, rfl, hca, ha⟩ := ha
 obtain ⟨gb, cb, rb, rfl, hcb, hb⟩ := hb
 have HA := Lib.hid (fun W (h : Below w.heap.size w W) => ha.bel h)
 have HB := Lib.hid (fun W (h : Below w.heap.size w W) => hb.bel h)
 have HN := Lib.hid (none60_any w n hn)
 clear ha hb
 go_enter Tryd.func90, Tryd.ntmps90
 go_upto_region 3 with (go_at_call 88; refine HN.out.mono ?_; rintro e w1 ⟨v, rfl, hm, hb⟩)
 rw [none_p] at hm
 obtain ⟨g, c, r, rfl, hc, hm⟩ := hm
 have HM := Lib.hid (And.intro hm hb)
 have hcc : n + 1 ≤ c := hc
 clear hm hb
 go_loopw [6, 7, 8] (fun u6 u7 u8 wr => ∃ i : Nat, i ≤ n + 1 ∧ u6 = .int .i64 i ∧ MtAt w.heap.size wr g r n (pF fun i' j' => i' < i ∧ Jn P Q i' j') ∧ Below w.heap.size w wr) (fun u6 u7 u8 _ => n + 2 - (intOf u6).toNat)
 case atStart => exact ⟨0, Nat.zero_le _, rfl, HM.out.1.ext_p (fun i j _ _ => by simp), HM.out.2⟩
 case round =>
  obtain ⟨i, hi, rfl, hm, hb⟩ := hrel
  have HR := Lib.hid (And.intro hm hb)
  clear hm hb HM
  by_cases hin : i ≤ n
  ·have hii1 : (i : Int) < (n : Int) + 1 := by omega
   go_upto_region 6 with (fail)
   go_loopw [7, 8] (fun u7 u8 wr => ∃ k : Nat, i ≤ k ∧ k ≤ n + 1 ∧ u7 = .int .i64 k ∧ MtAt w.heap.size wr g r n (pF (JK P Q i k)) ∧ Below w.heap.size w wr) (fun u7 u8 _ => n + 2 - (intOf u7).toNat)
   case atStart => exact ⟨i, Nat.le_refl _, by omega, rfl, HR.out.1.ext_p (fun i' j' _ _ => JK_start i i' j'), HR.out.2⟩
   case round =>
    clear HR
    obtain ⟨k, hik, hkn, rfl, hm, hb⟩ := hrel
    have HR := Lib.hid (And.intro hm hb)
    clear hm hb
    by_cases hkl : k ≤ n
    ·have hki : (k : Int) < (n : Int) + 1 := by omega
     obtain ⟨x, hx⟩ : ∃ x, pF P i k = x := ⟨_, rfl⟩
     go_upto_region 9 with (fail)
     go_loopw [8] (fun u8 wr => ∃ j : Nat, k ≤ j ∧ j ≤ n + 1 ∧ u8 = .int .i64 j ∧ MtAt w.heap.size wr g r n (pF (JJ P Q i k j)) ∧ Below w.heap.size w wr) (fun u8 _ => n + 2 - (intOf u8).toNat)
     case atStart => exact ⟨k, Nat.le_refl _, by omega, rfl, HR.out.1.ext_p (fun i' j' _ _ => JJ_start i k i' j'), HR.out.2⟩
     case round =>
      clear HR
      obtain ⟨j, hkj, hjn, rfl, hm, hb⟩ := hrel
      have HR := Lib.hid (And.intro hm hb)
      have hi1 : i < n + 1 := by omega
      have hk1 : k < n + 1 := by omega
      have c4 := (HA.out wr hb).cell hin
      have c5 := (HA.out wr hb).flag hin hkl
      rw [hx] at c5
      generalize hrai : ra i = rai at *
      cases x with
      | false =>
       have HP := Lib.hid (show ¬ P i k from fun h => by rw [pF_iff.2 h] at hx; cases hx)
       clear hm hb hx hrai
       go_wp2_with fail
       go_roundw
       case rel => exact ⟨k + 1, by omega, by omega, by go_num, HR.out.1.ext_p (fun i' j' _ _ => JJ_not HP.out), HR.out.2⟩
       case measure => simp [intOf]; omega
      | true =>
       have HP := Lib.hid (pF_iff.1 hx)
       clear hx
       by_cases hjl : j ≤ n
       ·have hji : (j : Int) < (n : Int) + 1 := by omega
        have hj1 : j < n + 1 := by omega
        have c1 := hm.cell hin
        have c2 := hm.flag hin hjl
        have c3 := hm.frozen hin j
        have c6 := (HB.out wr hb).cell hkl
        have c7 := (HB.out wr hb).flag hkl hjl
        generalize hri : r i = ri at *
        generalize hrbk : rb k = rbk at *
        obtain ⟨z, hz⟩ : ∃ z, pF (JJ P Q i k j) i j = z := ⟨_, rfl⟩
        obtain ⟨y, hy⟩ : ∃ y, pF Q k j = y := ⟨_, rfl⟩
        rw [hz] at c2
        rw [hy] at c7
        have HF := Lib.hid (show (z || y) = true ↔ JJ P Q i k j i j ∨ Q k j by rw [← hz, ← hy, Bool.or_eq_true, pF_iff, pF_iff])
        have HFIN := Lib.hid (show MtAt w.heap.size (wr.setCell ⟨ri, j, none⟩ (.bool (z || y))).drew g r n (pF (JJ P Q i k (j + 1))) ∧ Below w.heap.size w (wr.setCell ⟨ri, j, none⟩ (.bool (z || y))).drew by
         have h4 := hm.set_p (P' := JJ P Q i k (j + 1)) hin hjl (z || y) (HF.out.trans (JJ_store hkj HP.out)) (fun i' j' h => JJ_other h)
         rw [hri] at h4
         have h5 := (hm.row i hin).1
         rw [hri] at h5
         exact ⟨h4.bel (Below.refl _ _).drew, (hb.setCell h5 _).drew⟩)
        clear hz hy hm hb hri hrbk hrai HR HA HB HN HF HP
        go_upto_region 11 with (fail)
        cases z with
        | true =>
         go_region
         go_wp2_with fail
         go_roundw
         case rel => exact ⟨j + 1, by omega, by omega, by go_num, HFIN.out.1, HFIN.out.2⟩
         case measure => simp [intOf]; omega
        | false =>
         go_region
         go_wp2_with fail
         go_roundw
         case rel => exact ⟨j + 1, by omega, by omega, by go_num, HFIN.out.1, HFIN.out.2⟩
         case measure => simp [intOf]; omega
       ·have hji : ¬ (j : Int) < (n : Int) + 1 := by omega
        clear hm hb hrai
        go_wp2_with fail
        go_roundw
        case rel => exact ⟨k + 1, by omega, by omega, by go_num, HR.out.1.ext_p (fun i' j' _ hj' => JJ_end hik (by omega) hj'), HR.out.2⟩
        case measure => simp [intOf]; omega
    ·have hki : ¬ (k : Int) < (n : Int) + 1 := by omega
     go_wp2_with fail
     go_roundw
     case rel => exact ⟨i + 1, by omega, by go_num, HR.out.1.ext_p (fun i' j' _ hj' => JK_end (by omega) hj'), HR.out.2⟩
     case measure => simp [intOf]; omega
  ·have hii1 : ¬ (i : Int) < (n : Int) + 1 := by omega
   go_wp2_with fail
   go_ret
   refine ⟨_, rfl, ⟨g, c, r, rfl, hcc, HR.out.1.ext_p (fun i' j' hi' hj' => ?_)⟩, HR.out.2⟩
   constructor
   ·rintro ⟨h1, h2⟩; exact h2
   ·intro h2; exact ⟨by omega, h2⟩
end Go.Proofs.YtnccgaanfjaimaaDoor
