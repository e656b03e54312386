/- Walk of the chapter's example. -/
import Derived.Test.YtabbgananngjlaaO
namespace Go.Proofs.Ytabbgananngjlaa
open Go.ChangeShapes Go.WideShapes Go.ChangeAt Go.RowKit
set_option linter.unusedVariables false

/-- a new block of items, read as a slice of them -/
theorem pr_new (W : World) (l : List It) (cap : Nat) (n : Nat) (hn : n = l.length) : PR (W.alloc (.cells (flat l).toArray 40)) (.slice (some ⟨W.heap.size, 0, none⟩) n cap) l := by
  subst hn
  refine ⟨_, cap, rfl, fun _ => ⟨_, rfl, by simp, fun k hk => ?_⟩⟩
  have h := heap_alloc_new W (.cells (flat l).toArray 40)
  obtain ⟨f1, f2⟩ := flat_at l k hk
  constructor
  · rw [Addr.add_lit, cell_of_row _ _ _ _ 40 (0, 0) h]
    simpa using f1
  · rw [Addr.add_lit, cell_of_row _ _ _ _ 40 (0, 0) h]
    simpa using f2

def exL : List It := [(3, 7), (1, 9), (3, 2)]
theorem ex_srt : srt exL = [(1, 9), (3, 2), (3, 7)] := by decide
theorem ex_tk : tk 3 9 [(1, 9), (3, 2), (3, 7)] = ([(1, 9), (3, 2), (3, 7)], []) := by decide

theorem PR.at2 {w : World} {A : Option Addr} {n c : Nat} {l : List It} (h : PR w (.slice A n c) l) {k : Nat} (hk : k < l.length) :
    ∃ ad, A = some ad ∧ n = l.length ∧ ad.block < w.heap.size ∧ w.cell? (ad.add (k * 2)) = some (.int .i64 (g l k).1) ∧ w.cell? ⟨(ad.add (k * 2)).block, (ad.add (k * 2)).off + 1, none⟩ = some (.int .i64 (g l k).2) := by
  obtain ⟨A', c', e, h⟩ := h
  injection e with e1 e2 e3
  subst e1
  obtain ⟨ad, h1, h2, h3⟩ := h (by omega)
  obtain ⟨h4, h5⟩ := h3 k hk
  rw [g_get hk]
  exact ⟨ad, h1, e2, h2, h4, Ytabbgananngjlaa.at2 h5⟩

set_option maxRecDepth 100000 in
set_option maxHeartbeats 1000000 in
theorem awake_any (w : World) : Calls Try.prog 8 #[] w fun e w' => e = .returned (.bool true) ∧ Below w.heap.size w w' := by
  go_enter Try.func8, Try.ntmps8
  go_wp2_with fail
  have hp := pr_new w exL 3 3 rfl
  have hb : Below w.heap.size w (w.alloc (.cells (flat exL).toArray 40)) := (Below.refl _ w).alloc (Nat.le_refl _) _
  have HP := Lib.hid hp
  have HB := Lib.hid hb
  clear hp hb
  refine (new_any HP.out (by decide)).mono ?_
  rintro e w1 ⟨b, sv, M, rfl, hb1, hp1, hh1, hbb, hss, hbel⟩
  have hsM : srt M = [(1, 9), (3, 2), (3, 7)] := by rw [← ex_srt]; exact srt_congr hp1
  have hlM : M.length = 3 := by rw [hp1.length_eq]; rfl
  have hg0 : g M 0 = (1, 9) := by rw [← srt_g0 hh1 (by omega), hsM]; rfl
  have hz : w.heap.size ≤ b := by simp at hbb; omega
  have hs : ∀ g, sv.ownBlock = some g → w.heap.size ≤ g := fun g e => by have := hss g e; simp at this; omega
  have hB1 : Below w.heap.size w w1 := HB.out.trans (hbel.mono (by simp))
  have hfst := first_any hb1 (by unfold maxLen; omega)
  unfold FirstR at hfst
  rw [hg0, decide_eq_true (show 0 < M.length by omega)] at hfst
  have HB1 := Lib.hid hB1
  have HH := Lib.hid hb1
  have HHP := Lib.hid hh1
  have HSM := Lib.hid hsM
  have HLM := Lib.hid hlM
  have HZ := Lib.hid hz
  have HS := Lib.hid hs
  clear hb1 hp1 hh1 hbb hss hbel hsM hlM hg0 hz hs hB1 HP
  go_wp2_with fail
  refine hfst.mono ?_
  rintro e w2 ⟨rfl, hb2⟩
  have HB2 := Lib.hid hb2
  clear hb2 hfst
  go_wp2_with fail
  have hb3 : Below w1.heap.size w1 (w2.alloc (.cells #[.int .i64 1, .int .i64 9] 40)) := HB2.out.alloc HB2.out.size _
  have hx3 : (w2.alloc (.cells #[.int .i64 1, .int .i64 9] 40)).heap[w2.heap.size]? = some (.cells #[.int .i64 1, .int .i64 9] 40 (0, 0)) := heap_alloc_new w2 _
  have hh3 := HH.out.below hb3
  have hof : Off b sv w2.heap.size := HH.out.off HB2.out.size
  have hbW : Below w.heap.size w (w2.alloc (.cells #[.int .i64 1, .int .i64 9] 40)) := HB1.out.trans (hb3.mono HB1.out.size)
  have hl3 : w2.heap.size < (w2.alloc (.cells #[.int .i64 1, .int .i64 9] 40)).heap.size := by simp
  have HX3 := Lib.hid hx3
  have HH3 := Lib.hid hh3
  have HOF := Lib.hid hof
  have HBW := Lib.hid hbW
  have HL3 := Lib.hid hl3
  clear hb3 hx3 hh3 hof hbW hl3
  obtain ⟨X, hX⟩ : ∃ X, w2.heap.size = X := ⟨_, rfl⟩
  try rw [hX]
  rw [hX] at HX3 HOF HL3
  clear hX
  generalize w2.alloc (.cells #[.int .i64 1, .int .i64 9] 40) = w3 at *
  refine (taken_any HH3.out HHP.out (by have := HLM.out; omega) 3 9 (by omega)).mono ?_
  rintro e w4 ⟨v, sv4, M4, rfl, hpr, hvo, hb4, hh4, hsr, hlo, hk4, _⟩
  rw [show (9 : Int).toNat = 9 from rfl, HSM.out, ex_tk] at hpr hsr
  have hM4 : M4.length = 0 := by rw [← srt_len, hsr]; rfl
  have hx4 := (hk4.block X HL3.out HOF.out).trans HX3.out
  obtain ⟨x0, x1, _, _⟩ := res_cells hx4
  obtain ⟨A, c, rfl, hcells⟩ := hpr
  obtain ⟨ad, rfl, had, hcc⟩ := hcells (by decide)
  obtain ⟨d2, d3⟩ := hcc 1 (by decide)
  obtain ⟨d4, d5⟩ := hcc 2 (by decide)
  have c2 : w4.cell? ⟨ad.block, ad.off + 2, none⟩ = some (.int .i64 3) := by simpa [Addr.add] using d2
  have c3 : w4.cell? ⟨ad.block, ad.off + 2 + 1, none⟩ = some (.int .i64 2) := by simpa [Addr.add] using d3
  have c4 : w4.cell? ⟨ad.block, ad.off + 4, none⟩ = some (.int .i64 3) := by simpa [Addr.add] using d4
  have c5 : w4.cell? ⟨ad.block, ad.off + 4 + 1, none⟩ = some (.int .i64 7) := by simpa [Addr.add] using d5
  clear d2 d3 d4 d5
  have hln := len_any hb4
  rw [hM4] at hln
  have hfin : Below w.heap.size w w4 := HBW.out.trans (hk4.below HBW.out.size fun k hk => ⟨by have := HZ.out; omega, fun e => by have := HS.out k e; omega⟩)
  have HF := Lib.hid hfin
  clear hb4 hh4 hsr hlo hk4 hM4 hx4 hcells hcc hfin hvo
  have E1 := fun W => eq40 W 1 9 1 9
  have E2 := fun W => eq40 W 3 2 3 2
  have E3 := fun W => eq40 W 3 7 3 7
  simp only [decide_true] at E1 E2 E3
  go_wp2_with fail
  refine hln.mono ?_
  rintro e w5 ⟨rfl, rfl⟩
  clear hln
  go_wp2_with fail
  go_ret
  exact ⟨rfl, HF.out⟩
end Go.Proofs.Ytabbgananngjlaa
