/- Texts ZE, ZH, one behind the other. -/
import Derived.Test.YtnccgaanfjaimaaDoorH5
import Derived.Test.YtnccgaanfjaimaaDoorH6
set_option linter.unusedSimpArgs false
set_option linter.unusedVariables false
namespace Go.Proofs.YtnccgaanfjaimaaDoor
open Go.ChangeShapes Go.WideShapes Go.ChangeAt Go.RowKit
set_option linter.unusedVariables false
set_option linter.unusedSimpArgs false

theorem at_zero8 (g j : Nat) : (⟨g, 0, none⟩ : Addr).add j = ⟨g, j, none⟩ := by
  unfold Addr.add
  split
  · rename_i h; subst h; rfl
  · simp
theorem row_cells8 {W : World} {g : Nat} {l : List Value} {t : TypeId} {fr : Nat × Nat} (h : W.heap[g]? = some (.cells l.toArray t fr)) : ∀ j u, l[j]? = some u → W.cell? ((⟨g, 0, none⟩ : Addr).add j) = some u := by
  intro j u hu
  rw [at_zero8, cell_of_row _ _ _ _ _ _ h]
  simpa using hu
theorem frz8 {W : World} {g : Nat} {a : Array Value} {t : TypeId} (h : W.heap[g]? = some (.cells a t (0, 0))) (k : Nat) : W.frozen? ⟨g, k, none⟩ = false := by simp [World.frozen?, h]
theorem Kn.set_new {w W : World} {B r k : Nat} (h : Kn B w W) (hr : w.heap.size ≤ r) (hB : B ≤ r) (v : Value) : Kn B w (W.setCell ⟨r, k, none⟩ v) := by
  refine ⟨h.os, h.tape, h.output, by simpa using h.size, fun j hj => (Below.heap_setCell _ _ _ _ (by show j ≠ r; omega)).trans (h.low j hj), fun j v' t' fr' hj h1 h2 h3 => (Below.heap_setCell _ _ _ _ (fun e => ?_)).trans (h.cells j v' t' fr' hj h1 h2 h3)⟩
  obtain rfl : j = r := e
  have := (Array.getElem?_eq_some_iff.1 hj).1
  omega
theorem NfB.ne {w : World} {B N r : Nat} {sv lv : Value} {s : NS} {la : Nat} {em : Bool} {a : Array Value} {t : TypeId} {fr : Nat × Nat} (h : NfB w B N sv lv s la em) (hr : w.heap[r]? = some (.cells a t fr)) (ht : t ≠ 72) : r ≠ N := by
  rintro rfl
  rw [h.blk] at hr
  injection hr with hr
  injection hr with _ hr _
  exact ht hr.symm
theorem row_ne {w : World} {B e sz n r : Nat} {v : Value} {xs : List Value} {a : Array Value} {t : TypeId} {fr : Nat × Nat} (h : w.ownsRow B e sz v n xs) (hr : w.heap[r]? = some (.cells a t fr)) (ht : t ≠ e) : v.ownBlock ≠ some r := by
  intro e'
  rcases h.2 with ⟨he, _⟩ | ⟨g, cap, cur, he, _, hgg, _⟩
  · rw [he] at e'; cases e'
  · rw [he] at e'
    injection e' with e'
    subst e'
    rw [hr] at hgg
    injection hgg with hgg
    injection hgg with _ hgg _
    exact ht hgg
theorem NfB.other {w : World} {B N r k : Nat} {sv lv : Value} {s : NS} {la : Nat} {em : Bool} {a : Array Value} {t : TypeId} {fr : Nat × Nat} (h : NfB w B N sv lv s la em) (hr : w.heap[r]? = some (.cells a t fr)) (ht : t ≠ 72) (ht9 : t ≠ 9) (v : Value) : NfB (w.setCell ⟨r, k, none⟩ v) B N sv lv s la em :=
  ⟨(Below.heap_setCell _ _ _ _ (h.ne hr ht).symm).trans h.blk, ownsRow_setCell_other h.row (a := ⟨r, k, none⟩) (row_ne h.row hr ht9) v, h.low, h.pos⟩
theorem Kn.grownL {B n : Nat} {X Y : World} {v : Value} {xs : List Value} (h : X.grownBy Y v.ownBlock) (hr : X.ownsRow B 9 1 v n xs) (hB : B ≤ X.heap.size) : Kn B X Y := by
  refine ⟨h.os, h.tape, h.output, h.size, fun k hk => ?_, fun k v' t fr hk h1 h2 _ => (h.block k (Array.getElem?_eq_some_iff.1 hk).1 fun e => row_ne hr hk h2 e.symm).trans hk⟩
  exact h.block k (by omega) fun e => by have := (hr.lt k e.symm).1; omega
theorem NfB.appended {W w11 : World} {B N : Nat} {sv lv v' : Value} {s : NS} {la : Nat} {em : Bool} {l : ByteArray} (h : NfB W B N sv lv s la em) (hB : B ≤ W.heap.size) (hown' : w11.ownsRow B 9 1 v' (s.labs.length + 1) (s.labs.map Value.string ++ [.string l])) (hg : W.grownBy w11 lv.ownBlock) :
    w11.cell? ⟨N, 1, none⟩ = some lv ∧ w11.frozen? ⟨N, 1, none⟩ = false ∧ NfB (w11.setCell ⟨N, 1, none⟩ v') B N sv v' ⟨s.labs ++ [l], s.fol⟩ la em ∧ Kn B W (w11.setCell ⟨N, 1, none⟩ v') := by
  have hb : w11.heap[N]? = some (.cells (nfC sv lv s.fol la em).toArray 72 (0, 0)) := (hg.block N h.lt fun e => row_ne h.row h.blk (by decide) e.symm).trans h.blk
  refine ⟨?_, by simp [World.frozen?, hb], ⟨?_, ?_, h.low, h.pos⟩, ?_⟩
  · rw [cell_of_row _ _ _ _ _ _ hb, List.getElem?_toArray]; rfl
  · rw [heap_set hb]; rfl
  · simp only [List.length_append, List.length_singleton, List.map_append, List.map_cons, List.map_nil]
    exact ownsRow_setCell_other hown' (a := ⟨N, 1, none⟩) (row_ne hown' hb (by decide)) v'
  · exact (Kn.grownL hg h.row hB).trans (Kn.set hb (.inl rfl) h.low _)

set_option maxRecDepth 100000 in
set_option maxHeartbeats 4000000 in
theorem addLabel_any {w : World} {B N : Nat} {sv lv : Value} {s : NS} {la : Nat} {em : Bool} {l : ByteArray} (h : NfB w B N sv lv s la em) (hBw : B ≤ w.heap.size) (hl : l.size ≤ 140737488355328) (hn : s.labs.length < 32) :
    Calls Tryd.prog 66 #[.pointer (some ⟨N, 0, none⟩), .string l] w fun e w' => ∃ lv', e = .returned (.agg #[.int .u32 ((2 ^ s.labs.length : Nat) : Int), .int .u32 ((2 ^ s.labs.length : Nat) : Int)]) ∧ NfB w' B N sv lv' ⟨s.labs ++ [l], s.fol⟩ la em ∧ Kn B w w' := by
  obtain ⟨i9, hi9, hz9, hs9, hb9⟩ := info_parts parts9
  have hb1 : Below w.heap.size w (w.alloc (.cells #[.int .u32 0, .int .u32 0] 74)) := (Below.refl _ w).alloc (Nat.le_refl _) _
  have H := Lib.hid h
  obtain ⟨A, c, elv⟩ := row_form h.row
  have hc1 : w.cell? ⟨N, 1, none⟩ = some lv := by rw [cell_of_row _ _ _ _ _ _ h.blk, List.getElem?_toArray]; rfl
  have hc2 : (w.alloc (.cells #[.int .u32 0, .int .u32 0] 74)).cell? ⟨N, 1, none⟩ = some lv := (hb1.cell (p := ⟨N, 1, none⟩) h.lt).trans hc1
  subst elv
  have HB1 := Lib.hid hb1
  obtain ⟨k, hk⟩ : ∃ k, s.labs.length = k := ⟨_, rfl⟩
  have HK := Lib.hid hk
  rw [hk] at hc1 hc2 hn ⊢
  have honly := fun W => only_any k hn W
  obtain ⟨pw, hpw⟩ : ∃ x : Nat, 2 ^ k = x := ⟨_, rfl⟩
  rw [hpw] at honly ⊢
  have HONLY := Lib.hid honly
  clear hpw honly
  clear h hb1 hc1 hk
  go_enter Tryd.func66, Tryd.ntmps66
  go_upto_region 2 with (fail)
  have hx := at_push w (.cells #[.int .u32 0, .int .u32 0] 74)
  obtain ⟨W0, hW0⟩ : ∃ x, w.alloc (.cells #[.int .u32 0, .int .u32 0] 74) = x := ⟨_, rfl⟩
  rw [hW0] at hx hc2 HB1 ⊢
  clear hW0
  have HX := Lib.hid hx
  have hB0 : B ≤ W0.heap.size := Nat.le_trans hBw HB1.out.size
  have HN0 := Lib.hid (H.out.bel HB1.out)
  rw [HK.out] at HN0
  obtain ⟨lv, hlv⟩ : ∃ x, Value.slice A k c = x := ⟨_, rfl⟩
  rw [hlv] at HN0 hc2 ⊢
  have HN := Lib.hid (fun W (hW : Below W0.heap.size W0 W) => HN0.out.bel hW)
  have HC := Lib.hid (fun W (hW : Below W0.heap.size W0 W) => show W.cell? ⟨N, 1, none⟩ = some lv from (hW.cell (p := ⟨N, 1, none⟩) HN0.out.lt).trans hc2)
  have HO := Lib.hid (fun W (hW : Below W0.heap.size W0 W) => (HN.out W hW).row)
  clear hc2 hx hlv
  obtain ⟨r0, hr0⟩ : ∃ x, W0.drew = x := ⟨_, rfl⟩
  have P0 := Lib.hid (show Below W0.heap.size W0 r0 by rw [← hr0]; exact (Below.refl _ W0).drew)
  refine wp_region_noPanic ?_
  refine wp_region_held_drew (S := fun _ => True) (by kernel_rfl) trivial (fun hHeld => ?_)
  clear hHeld
  rw [hr0]
  clear hr0
  refine wpAnyH_take (i := 0) (v := .pointer (some ⟨N, 0, none⟩)) rfl (by kernel_rfl) (by kernel_rfl) (by kernel_rfl) (fun _ _ _ h => (h : False).elim) (Or.inl ⟨by rfl, ?_⟩) trivial ?_
  · intro w hSw
    go_simp
  try simp only [Act.put, z1, z2, z3, z4, z5, z6]
  refine wpAnyH_take (i := 1) (v := .pointer (some ⟨N, 0, none⟩)) rfl (by kernel_rfl) (by kernel_rfl) (by kernel_rfl) (fun _ _ _ h => (h : False).elim) (Or.inl ⟨by rfl, ?_⟩) trivial ?_
  · intro w hSw
    go_simp
  try simp only [Act.put, z1, z2, z3, z4, z5, z6]
  refine wpAnyH_take (i := 2) (v := .pointer (some ⟨N, 0, none⟩)) rfl (by kernel_rfl) (by kernel_rfl) (by kernel_rfl) (fun _ _ _ h => (h : False).elim) (Or.inl ⟨by rfl, ?_⟩) trivial ?_
  · intro w hSw
    go_simp
  try simp only [Act.put, z1, z2, z3, z4, z5, z6]
  refine wpAnyH_take (i := 3) (v := .pointer (some ⟨N, 1, none⟩)) rfl (by kernel_rfl) (by kernel_rfl) (by kernel_rfl) (fun _ _ _ h => (h : False).elim) (Or.inl ⟨by rfl, ?_⟩) trivial ?_
  · intro w hSw
    go_simp
  try simp only [Act.put, z1, z2, z3, z4, z5, z6]
  refine wpAnyH_take (i := 5) (v := .string l) rfl (by kernel_rfl) (by kernel_rfl) (by kernel_rfl) (fun _ _ _ h => (h : False).elim) (Or.inl ⟨by rfl, ?_⟩) trivial ?_
  · intro w hSw
    go_simp
  try simp only [Act.put, z1, z2, z3, z4, z5, z6]
  refine wpAnyH_ready (rs := [4, 6]) (by kernel_rfl) (by simp) ?_
  refine AllReadyH.cons rfl (fun K hK => ?_) (AllReadyH.cons rfl (fun K hK => ?_) (AllReadyH.nil))
  · have q1 := HC.out _ P0.out
    go_simp
    clear q1
    refine hK.out _ _ trivial (fun _ => ?_)
    clear hK
    try simp only [Act.put, z1, z2, z3, z4, z5, z6]
    have P1 := P0
    obtain ⟨r1, hr1⟩ : ∃ x, r0 = x := ⟨_, rfl⟩
    rw [hr1] at P1 ⊢
    clear hr1
    refine wpAnyH_ready (rs := [6]) (by kernel_rfl) (by simp) ?_
    refine AllReadyH.cons rfl (fun K hK => ?_) (AllReadyH.nil)
    go_simp
    refine (clone_any l _ hl).mono ?_
    rintro e r2 ⟨rfl, hg⟩
    have P2 := Lib.hid (P1.out.trans (hg.mono P1.out.size))
    clear hg
    refine hK.out _ _ trivial (fun _ => ?_)
    clear hK
    try simp only [Act.put, z1, z2, z3, z4, z5, z6]
    refine wpAnyH_ready (rs := [7]) (by kernel_rfl) (by simp) ?_
    refine AllReadyH.cons rfl (fun K hK => ?_) (AllReadyH.nil)
    go_simp
    refine hK.out _ _ trivial (fun _ => ?_)
    clear hK
    try simp only [Act.put, z1, z2, z3, z4, z5, z6]
    obtain ⟨r3, hr3⟩ : ∃ x, r2.alloc (.cells #[.string l] 9) = x := ⟨_, rfl⟩
    obtain ⟨g, hg0⟩ : ∃ x, r2.heap.size = x := ⟨_, rfl⟩
    have FG := Lib.hid (show r3.heap[g]? = some (.cells #[.string l] 9 (0, 0)) by rw [← hr3, ← hg0]; exact at_push _ _)
    have P3 := Lib.hid (show Below W0.heap.size W0 r3 by rw [← hr3]; exact P2.out.alloc P2.out.size _)
    rw [hr3, hg0]
    clear hr3 hg0
    refine wpAnyH_ready (rs := [8]) (by kernel_rfl) (by simp) ?_
    refine AllReadyH.cons rfl (fun K hK => ?_) (AllReadyH.nil)
    have hown := HO.out _ P3.out
    refine step_append_own rfl (.tmp 15) (.tmp 18) rfl (base := B) Tryd.underlying41 hi9 hz9 hs9 hb9 rfl (by decide) (v := lv) (by simp [Act.eval]) hown (ad := ⟨g, 0, none⟩) (m := 1) (c := 1) (news := [.string l]) (by simp [Act.eval]) rfl (row_cells8 FG.out) (by simp [Value.oneCell']) (by have := HK.out; unfold maxLen; omega) (by have := HK.out; omega) (Nat.le_trans hB0 P3.out.size) ?_
    intro v' w6 hown' hgrow' hat'
    obtain ⟨A6, c6, e6⟩ := row_form hown'
    subst e6
    have FIN := Lib.hid (NfB.appended (HN.out _ P3.out) (Nat.le_trans hB0 P3.out.size) hown' hgrow')
    have PX := P3
    clear hown hown' hgrow' hat'
    refine hK.out _ _ trivial (fun _ => ?_)
    clear hK
    try simp only [Act.put, z1, z2, z3, z4, z5, z6]
    refine wpAnyH_take (i := 9) (v := .pointer (some ⟨N, 0, none⟩)) rfl (by kernel_rfl) (by kernel_rfl) (by kernel_rfl) (fun _ _ _ h => (h : False).elim) (Or.inl ⟨by rfl, ?_⟩) trivial ?_
    · intro w hSw
      go_simp
    try simp only [Act.put, z1, z2, z3, z4, z5, z6]
    refine wpAnyH_take (i := 10) (v := .pointer (some ⟨N, 1, none⟩)) rfl (by kernel_rfl) (by kernel_rfl) (by kernel_rfl) (fun _ _ _ h => (h : False).elim) (Or.inl ⟨by rfl, ?_⟩) trivial ?_
    · intro w hSw
      go_simp
    try simp only [Act.put, z1, z2, z3, z4, z5, z6]
    refine wpAnyH_ready (rs := [11]) (by kernel_rfl) (by simp) ?_
    refine AllReadyH.cons rfl (fun K hK => ?_) (AllReadyH.nil)
    obtain ⟨q0, q1, -, -⟩ := FIN.out
    go_simp
    refine hK.out _ _ trivial (fun _ => ?_)
    clear hK q0 q1
    try simp only [Act.put, z1, z2, z3, z4, z5, z6]
    refine ⟨by kernel_rfl, ?_⟩
    refine NoPanic.normal ?_
    obtain ⟨-, -, f3, f4⟩ := FIN.out
    have hkk := (Kn.of_below PX.out hB0).trans f4
    have hxb := hkk.cells _ _ _ _ HX.out (by decide) (by decide) (by decide)
    have hk0 := (Kn.of_below HB1.out hBw).trans hkk
    obtain ⟨wz, hwz⟩ : ∃ x, w6.setCell ⟨N, 1, none⟩ (.slice A6 (s.labs.length + 1) c6) = x := ⟨_, rfl⟩
    rw [hwz] at f3 hxb hk0 ⊢
    have R := Lib.hid (And.intro f3 (And.intro hxb hk0))
    have c0 := cell_of_row _ _ 0 _ 74 (0, 0) hxb
    have c1 := cell_of_row _ _ 1 _ 74 (0, 0) hxb
    have d0 := frz8 hxb 0
    have d1 := frz8 hxb 1
    simp only [List.getElem?_toArray, List.getElem?_cons_zero, List.getElem?_cons_succ] at c0 c1
    clear f3 f4 hkk hxb hk0 hwz
    go_wp2_with (go_at_call 45; refine (HONLY.out _).mono ?_; rintro e w1 ⟨rfl, rfl⟩)
    have h0 := heap_set (k := 0) R.out.2.1 (.int .u32 (pw : Int))
    have h1 := heap_set (k := 1) h0 (.int .u32 (pw : Int))
    have e0 := cell_of_row _ _ 0 _ 74 (0, 0) h1
    have e1 := cell_of_row _ _ 1 _ 74 (0, 0) h1
    simp only [List.getElem?_toArray, List.set_cons_zero, List.set_cons_succ, List.getElem?_cons_zero, List.getElem?_cons_succ] at e0 e1
    try simp only [Exit.inBlock, Exit.then]
    refine bodyPost_ret (v := .agg #[.int .u32 (pw : Int), .int .u32 (pw : Int)]) (by simp [results, Tryd.results66, go_sem, e0, e1]) rfl ?_
    have h2 := (R.out.1.other (k := 0) R.out.2.1 (by decide) (by decide) (.int .u32 (pw : Int))).other (k := 1) h0 (by decide) (by decide) (.int .u32 (pw : Int))
    exact ⟨_, rfl, h2, (R.out.2.2.set_new (Nat.le_refl _) hBw _).set_new (Nat.le_refl _) hBw _⟩
  · go_simp
    refine (clone_any l _ hl).mono ?_
    rintro e r1 ⟨rfl, hg⟩
    have P1 := Lib.hid (P0.out.trans (hg.mono P0.out.size))
    clear hg
    refine hK.out _ _ trivial (fun _ => ?_)
    clear hK
    try simp only [Act.put, z1, z2, z3, z4, z5, z6]
    refine wpAnyH_ready (rs := [4, 7]) (by kernel_rfl) (by simp) ?_
    refine AllReadyH.cons rfl (fun K hK => ?_) (AllReadyH.cons rfl (fun K hK => ?_) (AllReadyH.nil))
    · have q1 := HC.out _ P1.out
      go_simp
      clear q1
      refine hK.out _ _ trivial (fun _ => ?_)
      clear hK
      try simp only [Act.put, z1, z2, z3, z4, z5, z6]
      have P2 := P1
      obtain ⟨r2, hr2⟩ : ∃ x, r1 = x := ⟨_, rfl⟩
      rw [hr2] at P2 ⊢
      clear hr2
      refine wpAnyH_ready (rs := [7]) (by kernel_rfl) (by simp) ?_
      refine AllReadyH.cons rfl (fun K hK => ?_) (AllReadyH.nil)
      go_simp
      refine hK.out _ _ trivial (fun _ => ?_)
      clear hK
      try simp only [Act.put, z1, z2, z3, z4, z5, z6]
      obtain ⟨r3, hr3⟩ : ∃ x, r2.alloc (.cells #[.string l] 9) = x := ⟨_, rfl⟩
      obtain ⟨g, hg0⟩ : ∃ x, r2.heap.size = x := ⟨_, rfl⟩
      have FG := Lib.hid (show r3.heap[g]? = some (.cells #[.string l] 9 (0, 0)) by rw [← hr3, ← hg0]; exact at_push _ _)
      have P3 := Lib.hid (show Below W0.heap.size W0 r3 by rw [← hr3]; exact P2.out.alloc P2.out.size _)
      rw [hr3, hg0]
      clear hr3 hg0
      refine wpAnyH_ready (rs := [8]) (by kernel_rfl) (by simp) ?_
      refine AllReadyH.cons rfl (fun K hK => ?_) (AllReadyH.nil)
      have hown := HO.out _ P3.out
      refine step_append_own rfl (.tmp 15) (.tmp 18) rfl (base := B) Tryd.underlying41 hi9 hz9 hs9 hb9 rfl (by decide) (v := lv) (by simp [Act.eval]) hown (ad := ⟨g, 0, none⟩) (m := 1) (c := 1) (news := [.string l]) (by simp [Act.eval]) rfl (row_cells8 FG.out) (by simp [Value.oneCell']) (by have := HK.out; unfold maxLen; omega) (by have := HK.out; omega) (Nat.le_trans hB0 P3.out.size) ?_
      intro v' w6 hown' hgrow' hat'
      obtain ⟨A6, c6, e6⟩ := row_form hown'
      subst e6
      have FIN := Lib.hid (NfB.appended (HN.out _ P3.out) (Nat.le_trans hB0 P3.out.size) hown' hgrow')
      have PX := P3
      clear hown hown' hgrow' hat'
      refine hK.out _ _ trivial (fun _ => ?_)
      clear hK
      try simp only [Act.put, z1, z2, z3, z4, z5, z6]
      refine wpAnyH_take (i := 9) (v := .pointer (some ⟨N, 0, none⟩)) rfl (by kernel_rfl) (by kernel_rfl) (by kernel_rfl) (fun _ _ _ h => (h : False).elim) (Or.inl ⟨by rfl, ?_⟩) trivial ?_
      · intro w hSw
        go_simp
      try simp only [Act.put, z1, z2, z3, z4, z5, z6]
      refine wpAnyH_take (i := 10) (v := .pointer (some ⟨N, 1, none⟩)) rfl (by kernel_rfl) (by kernel_rfl) (by kernel_rfl) (fun _ _ _ h => (h : False).elim) (Or.inl ⟨by rfl, ?_⟩) trivial ?_
      · intro w hSw
        go_simp
      try simp only [Act.put, z1, z2, z3, z4, z5, z6]
      refine wpAnyH_ready (rs := [11]) (by kernel_rfl) (by simp) ?_
      refine AllReadyH.cons rfl (fun K hK => ?_) (AllReadyH.nil)
      obtain ⟨q0, q1, -, -⟩ := FIN.out
      go_simp
      refine hK.out _ _ trivial (fun _ => ?_)
      clear hK q0 q1
      try simp only [Act.put, z1, z2, z3, z4, z5, z6]
      refine ⟨by kernel_rfl, ?_⟩
      refine NoPanic.normal ?_
      obtain ⟨-, -, f3, f4⟩ := FIN.out
      have hkk := (Kn.of_below PX.out hB0).trans f4
      have hxb := hkk.cells _ _ _ _ HX.out (by decide) (by decide) (by decide)
      have hk0 := (Kn.of_below HB1.out hBw).trans hkk
      obtain ⟨wz, hwz⟩ : ∃ x, w6.setCell ⟨N, 1, none⟩ (.slice A6 (s.labs.length + 1) c6) = x := ⟨_, rfl⟩
      rw [hwz] at f3 hxb hk0 ⊢
      have R := Lib.hid (And.intro f3 (And.intro hxb hk0))
      have c0 := cell_of_row _ _ 0 _ 74 (0, 0) hxb
      have c1 := cell_of_row _ _ 1 _ 74 (0, 0) hxb
      have d0 := frz8 hxb 0
      have d1 := frz8 hxb 1
      simp only [List.getElem?_toArray, List.getElem?_cons_zero, List.getElem?_cons_succ] at c0 c1
      clear f3 f4 hkk hxb hk0 hwz
      go_wp2_with (go_at_call 45; refine (HONLY.out _).mono ?_; rintro e w1 ⟨rfl, rfl⟩)
      have h0 := heap_set (k := 0) R.out.2.1 (.int .u32 (pw : Int))
      have h1 := heap_set (k := 1) h0 (.int .u32 (pw : Int))
      have e0 := cell_of_row _ _ 0 _ 74 (0, 0) h1
      have e1 := cell_of_row _ _ 1 _ 74 (0, 0) h1
      simp only [List.getElem?_toArray, List.set_cons_zero, List.set_cons_succ, List.getElem?_cons_zero, List.getElem?_cons_succ] at e0 e1
      try simp only [Exit.inBlock, Exit.then]
      refine bodyPost_ret (v := .agg #[.int .u32 (pw : Int), .int .u32 (pw : Int)]) (by simp [results, Tryd.results66, go_sem, e0, e1]) rfl ?_
      have h2 := (R.out.1.other (k := 0) R.out.2.1 (by decide) (by decide) (.int .u32 (pw : Int))).other (k := 1) h0 (by decide) (by decide) (.int .u32 (pw : Int))
      exact ⟨_, rfl, h2, (R.out.2.2.set_new (Nat.le_refl _) hBw _).set_new (Nat.le_refl _) hBw _⟩
    · go_simp
      refine hK.out _ _ trivial (fun _ => ?_)
      clear hK
      try simp only [Act.put, z1, z2, z3, z4, z5, z6]
      obtain ⟨r2, hr2⟩ : ∃ x, r1.alloc (.cells #[.string l] 9) = x := ⟨_, rfl⟩
      obtain ⟨g, hg0⟩ : ∃ x, r1.heap.size = x := ⟨_, rfl⟩
      have FG := Lib.hid (show r2.heap[g]? = some (.cells #[.string l] 9 (0, 0)) by rw [← hr2, ← hg0]; exact at_push _ _)
      have P2 := Lib.hid (show Below W0.heap.size W0 r2 by rw [← hr2]; exact P1.out.alloc P1.out.size _)
      rw [hr2, hg0]
      clear hr2 hg0
      refine wpAnyH_ready (rs := [4]) (by kernel_rfl) (by simp) ?_
      refine AllReadyH.cons rfl (fun K hK => ?_) (AllReadyH.nil)
      have q1 := HC.out _ P2.out
      go_simp
      clear q1
      refine hK.out _ _ trivial (fun _ => ?_)
      clear hK
      try simp only [Act.put, z1, z2, z3, z4, z5, z6]
      have P3 := P2
      obtain ⟨r3, hr3⟩ : ∃ x, r2 = x := ⟨_, rfl⟩
      rw [hr3] at P3 FG ⊢
      clear hr3
      refine wpAnyH_ready (rs := [8]) (by kernel_rfl) (by simp) ?_
      refine AllReadyH.cons rfl (fun K hK => ?_) (AllReadyH.nil)
      have hown := HO.out _ P3.out
      refine step_append_own rfl (.tmp 15) (.tmp 18) rfl (base := B) Tryd.underlying41 hi9 hz9 hs9 hb9 rfl (by decide) (v := lv) (by simp [Act.eval]) hown (ad := ⟨g, 0, none⟩) (m := 1) (c := 1) (news := [.string l]) (by simp [Act.eval]) rfl (row_cells8 FG.out) (by simp [Value.oneCell']) (by have := HK.out; unfold maxLen; omega) (by have := HK.out; omega) (Nat.le_trans hB0 P3.out.size) ?_
      intro v' w6 hown' hgrow' hat'
      obtain ⟨A6, c6, e6⟩ := row_form hown'
      subst e6
      have FIN := Lib.hid (NfB.appended (HN.out _ P3.out) (Nat.le_trans hB0 P3.out.size) hown' hgrow')
      have PX := P3
      clear hown hown' hgrow' hat'
      refine hK.out _ _ trivial (fun _ => ?_)
      clear hK
      try simp only [Act.put, z1, z2, z3, z4, z5, z6]
      refine wpAnyH_take (i := 9) (v := .pointer (some ⟨N, 0, none⟩)) rfl (by kernel_rfl) (by kernel_rfl) (by kernel_rfl) (fun _ _ _ h => (h : False).elim) (Or.inl ⟨by rfl, ?_⟩) trivial ?_
      · intro w hSw
        go_simp
      try simp only [Act.put, z1, z2, z3, z4, z5, z6]
      refine wpAnyH_take (i := 10) (v := .pointer (some ⟨N, 1, none⟩)) rfl (by kernel_rfl) (by kernel_rfl) (by kernel_rfl) (fun _ _ _ h => (h : False).elim) (Or.inl ⟨by rfl, ?_⟩) trivial ?_
      · intro w hSw
        go_simp
      try simp only [Act.put, z1, z2, z3, z4, z5, z6]
      refine wpAnyH_ready (rs := [11]) (by kernel_rfl) (by simp) ?_
      refine AllReadyH.cons rfl (fun K hK => ?_) (AllReadyH.nil)
      obtain ⟨q0, q1, -, -⟩ := FIN.out
      go_simp
      refine hK.out _ _ trivial (fun _ => ?_)
      clear hK q0 q1
      try simp only [Act.put, z1, z2, z3, z4, z5, z6]
      refine ⟨by kernel_rfl, ?_⟩
      refine NoPanic.normal ?_
      obtain ⟨-, -, f3, f4⟩ := FIN.out
      have hkk := (Kn.of_below PX.out hB0).trans f4
      have hxb := hkk.cells _ _ _ _ HX.out (by decide) (by decide) (by decide)
      have hk0 := (Kn.of_below HB1.out hBw).trans hkk
      obtain ⟨wz, hwz⟩ : ∃ x, w6.setCell ⟨N, 1, none⟩ (.slice A6 (s.labs.length + 1) c6) = x := ⟨_, rfl⟩
      rw [hwz] at f3 hxb hk0 ⊢
      have R := Lib.hid (And.intro f3 (And.intro hxb hk0))
      have c0 := cell_of_row _ _ 0 _ 74 (0, 0) hxb
      have c1 := cell_of_row _ _ 1 _ 74 (0, 0) hxb
      have d0 := frz8 hxb 0
      have d1 := frz8 hxb 1
      simp only [List.getElem?_toArray, List.getElem?_cons_zero, List.getElem?_cons_succ] at c0 c1
      clear f3 f4 hkk hxb hk0 hwz
      go_wp2_with (go_at_call 45; refine (HONLY.out _).mono ?_; rintro e w1 ⟨rfl, rfl⟩)
      have h0 := heap_set (k := 0) R.out.2.1 (.int .u32 (pw : Int))
      have h1 := heap_set (k := 1) h0 (.int .u32 (pw : Int))
      have e0 := cell_of_row _ _ 0 _ 74 (0, 0) h1
      have e1 := cell_of_row _ _ 1 _ 74 (0, 0) h1
      simp only [List.getElem?_toArray, List.set_cons_zero, List.set_cons_succ, List.getElem?_cons_zero, List.getElem?_cons_succ] at e0 e1
      try simp only [Exit.inBlock, Exit.then]
      refine bodyPost_ret (v := .agg #[.int .u32 (pw : Int), .int .u32 (pw : Int)]) (by simp [results, Tryd.results66, go_sem, e0, e1]) rfl ?_
      have h2 := (R.out.1.other (k := 0) R.out.2.1 (by decide) (by decide) (.int .u32 (pw : Int))).other (k := 1) h0 (by decide) (by decide) (.int .u32 (pw : Int))
      exact ⟨_, rfl, h2, (R.out.2.2.set_new (Nat.le_refl _) hBw _).set_new (Nat.le_refl _) hBw _⟩
end Go.Proofs.YtnccgaanfjaimaaDoor

namespace Go.Proofs.YtnccgaanfjaimaaDoor
open Go.ChangeShapes Go.WideShapes Go.ChangeAt Go.RowKit
set_option linter.unusedVariables false
set_option linter.unusedSimpArgs false

/-- the Nfa of an expression -/
def NfX (w : World) (B N : Nat) (x : X) : Prop := ∃ lv, NfB w B N (.pointer (some ⟨N, 0, none⟩)) lv ⟨(nf x).1.labs, nfF x⟩ (nfL x) x.emp
theorem NfX.bel {w w' : World} {B N : Nat} {x : X} (h : NfX w B N x) (hb : Below w.heap.size w w') : NfX w' B N x := let ⟨lv, h⟩ := h; ⟨lv, h.bel hb⟩
theorem NfX.rel {w w' : World} {B C N : Nat} {x : X} (h : NfX w B N x) (hr : Rel C w w') : NfX w' B N x := let ⟨lv, h⟩ := h; ⟨lv, h.rel hr⟩
theorem labs_len (x : X) : (nf x).1.labs.length = x.pn + 1 := by rw [nf_labs]; rfl
/-- a position's label -/
def labP (x : X) (p : Int) : ByteArray := if 0 < p ∧ p ≤ x.pn then (nf x).1.labs[p.toNat]?.getD ⟨#[]⟩ else ⟨#[]⟩
/-- what follows it -/
def folP (x : X) (p : Int) : List Nat := if 0 < p ∧ p ≤ x.pn then els (nfF x p.toNat) else []

/-- what is read of it -/
theorem NfX.facts {w : World} {B N : Nat} {x : X} (h : NfX w B N x) : ∃ ad c, w.cell? ⟨N, 0, none⟩ = some (.pointer (some ⟨N, 0, none⟩)) ∧ w.cell? ⟨N, 1, none⟩ = some (.slice (some ad) ((x.pn + 1 : Nat) : Int).toNat c) ∧ (∀ p, p < 25 → w.cell? ⟨N, 2 + p, none⟩ = some (.int .u32 (nfF x p))) ∧
    w.cell? ⟨N, 27, none⟩ = some (.int .u32 (nfL x)) ∧ w.cell? ⟨N, 28, none⟩ = some (.bool x.emp) ∧ (∀ p, p < x.pn + 1 → w.cell? (ad.add p) = some (.string ((nf x).1.labs[p]?.getD ⟨#[]⟩))) ∧ ad.block < w.heap.size ∧ B ≤ ad.block := by
  obtain ⟨lv, h⟩ := h
  have hr := h.row
  rcases hr.2 with ⟨he, h0⟩ | ⟨g, cap, cur, rfl, hbg, hgg, _⟩
  · rw [labs_len] at h0; omega
  · refine ⟨⟨g, 0, none⟩, cap, ?_, ?_, fun p hp => h.fol hp, ?_, ?_, fun p hp => ?_, (Array.getElem?_eq_some_iff.1 hgg).1, hbg⟩
    · rw [cell_of_row _ _ _ _ _ _ h.blk, List.getElem?_toArray]; rfl
    · rw [cell_of_row _ _ _ _ _ _ h.blk, List.getElem?_toArray]
      show some (Value.slice (some ⟨g, 0, none⟩) (nf x).1.labs.length cap) = _
      rw [labs_len]; rfl
    · rw [cell_of_row _ _ _ _ _ _ h.blk, List.getElem?_toArray]; rfl
    · rw [cell_of_row _ _ _ _ _ _ h.blk, List.getElem?_toArray]; rfl
    · refine hr.cells (g := g) rfl p _ ?_
      rw [List.getElem?_map, List.getElem?_eq_getElem (by rw [labs_len]; exact hp)]
      rfl

theorem info72 : ∃ j, Tryd.prog.info? 72 = some j := by
  have : (Tryd.prog.info? 72).isSome = true := by kernel_rfl
  exact Option.isSome_iff_exists.1 this
theorem same29 (w : World) (a : Addr) : (binOp .eql 29 (.pointer (some a)) (.pointer (some a))).run Tryd.prog w = .ok (.bool true) w := by
  obtain ⟨j, hj⟩ := info72
  exact run_eql_ptr_same w a Tryd.underlying29 hj

set_option maxRecDepth 100000 in
theorem made_any {w : World} {B N : Nat} {x : X} (h : NfX w B N x) : Calls Tryd.prog 52 #[.pointer (some ⟨N, 0, none⟩)] w fun e w' => e = .returned (.bool true) ∧ w = w' := by
  obtain ⟨ad, c, h0, h1, h2, h3, h4, h5, -⟩ := h.facts
  have hs := fun W => same29 W ⟨N, 0, none⟩
  clear h h2 h5
  go_enter Tryd.func52, Tryd.ntmps52
  go_wp2
  go_ret
  exact ⟨rfl, rfl⟩
theorem len_any {w : World} {B N : Nat} {x : X} (h : NfX w B N x) (hp : x.pn ≤ 1000) : Calls Tryd.prog 16 #[.pointer (some ⟨N, 0, none⟩)] w fun e w' => e = .returned (.int .i64 x.pn) ∧ w = w' := by
  have HM := Lib.hid (made_any h)
  obtain ⟨ad, c, h0, h1, h2, h3, h4, h5, -⟩ := h.facts
  clear h h2 h5
  go_enter Tryd.func16, Tryd.ntmps16
  go_wp2_with (go_at_call 52; refine HM.out.mono ?_; rintro e w1 ⟨rfl, rfl⟩)
  go_ret
  exact ⟨ret_int (by simp), rfl⟩
theorem has_any {w : World} {B N : Nat} {x : X} (h : NfX w B N x) (hp : x.pn ≤ 1000) (p : Int) : Calls Tryd.prog 55 #[.pointer (some ⟨N, 0, none⟩), .int .i64 p] w fun e w' => e = .returned (.bool (decide (0 < p ∧ p ≤ x.pn))) ∧ w = w' := by
  have HM := Lib.hid (len_any h hp)
  clear h
  by_cases h1 : 0 < p
  · by_cases h2 : p ≤ x.pn
    · rw [decide_eq_true (And.intro h1 h2)]
      go_enter Tryd.func55, Tryd.ntmps55
      go_wp2_with (go_at_call 16; refine HM.out.mono ?_; rintro e w1 ⟨rfl, rfl⟩)
      go_ret
      exact ⟨rfl, rfl⟩
    · rw [decide_eq_false (fun h => h2 h.2)]
      go_enter Tryd.func55, Tryd.ntmps55
      go_wp2_with (go_at_call 16; refine HM.out.mono ?_; rintro e w1 ⟨rfl, rfl⟩)
      go_ret
      exact ⟨ret_bool (decide_eq_false (by omega)), rfl⟩
  · rw [decide_eq_false (fun h => h1 h.1)]
    go_enter Tryd.func55, Tryd.ntmps55
    go_wp2_with (go_at_call 16; refine HM.out.mono ?_; rintro e w1 ⟨rfl, rfl⟩)
    go_ret
    exact ⟨rfl, rfl⟩
theorem empty_any {w : World} {B N : Nat} {x : X} (h : NfX w B N x) : Calls Tryd.prog 17 #[.pointer (some ⟨N, 0, none⟩)] w fun e w' => e = .returned (.bool x.emp) ∧ w = w' := by
  have HM := Lib.hid (made_any h)
  obtain ⟨ad, c, h0, h1, h2, h3, h4, h5, -⟩ := h.facts
  clear h h2 h5
  go_enter Tryd.func17, Tryd.ntmps17
  go_wp2_with (go_at_call 52; refine HM.out.mono ?_; rintro e w1 ⟨rfl, rfl⟩)
  go_ret
  exact ⟨rfl, rfl⟩
theorem label18_any {w : World} {B N : Nat} {x : X} (h : NfX w B N x) (hp : x.pn ≤ 1000) (p : Int) : Calls Tryd.prog 18 #[.pointer (some ⟨N, 0, none⟩), .int .i64 p] w fun e w' => e = .returned (.string (labP x p)) ∧ w = w' := by
  have HM := Lib.hid (has_any h hp p)
  obtain ⟨ad, c, h0, h1, h2, h3, h4, h5, -⟩ := h.facts
  by_cases hc : 0 < p ∧ p ≤ x.pn
  · obtain ⟨k, rfl⟩ : ∃ k : Nat, p = k := ⟨p.toNat, by omega⟩
    have hk : k < x.pn + 1 := by omega
    have q := h5 k hk
    have e : labP x (k : Int) = (nf x).1.labs[k]?.getD ⟨#[]⟩ := by unfold labP; rw [if_pos hc]; rfl
    rw [← e] at q
    rw [decide_eq_true hc] at HM
    have HK := Lib.hid (And.intro hk hp)
    generalize labP x (k : Int) = L at *
    generalize x.pn = n at *
    clear h h2 h5 hc e
    go_enter Tryd.func18, Tryd.ntmps18
    go_wp2_with (go_at_call 55; refine HM.out.mono ?_; rintro e w1 ⟨rfl, rfl⟩)
    go_ret
    exact ⟨rfl, rfl⟩
  · have e : labP x p = ⟨#[]⟩ := by unfold labP; rw [if_neg hc]
    rw [e]
    rw [decide_eq_false hc] at HM
    clear h h2 h5 hc e
    go_enter Tryd.func18, Tryd.ntmps18
    go_wp2_with (go_at_call 55; refine HM.out.mono ?_; rintro e w1 ⟨rfl, rfl⟩)
    go_ret
    exact ⟨rfl, rfl⟩
/-- a list told -/
def ListQ (l : List Nat) (w : World) (e : Ending) (w' : World) : Prop := ∃ v, e = .returned v ∧ w'.ownsRow w.heap.size 3 1 v l.length (nums l) ∧ Below w.heap.size w w'
theorem pow25 {x : X} (hs : x.pn ≤ 24) : (2 : Nat) ^ (1 + x.pn) ≤ 2 ^ 25 := Nat.pow_le_pow_right (by decide) (by omega)
theorem nfF_lt {x : X} (hs : x.pn ≤ 24) (p : Nat) : nfF x p < 2 ^ 25 := Nat.lt_of_lt_of_le ((nf_bd x).1 p) (pow25 hs)
theorem nfL_lt {x : X} (hs : x.pn ≤ 24) : nfL x < 2 ^ 25 := Nat.lt_of_lt_of_le (nf_bd x).2 (pow25 hs)
theorem first14_any {w : World} {B N : Nat} {x : X} (h : NfX w B N x) (hT : Tb w) (hs : x.pn ≤ 24) : Calls Tryd.prog 14 #[.pointer (some ⟨N, 0, none⟩)] w (ListQ (els (nfF x 0)) w) := by
  have HM := Lib.hid (made_any h)
  have HL := Lib.hid (list_any (nfF x 0) hT (Nat.lt_of_lt_of_le (nfF_lt hs 0) (by decide)))
  obtain ⟨ad, c, h0, h1, h2, h3, h4, h5, -⟩ := h.facts
  have q := h2 0 (by decide)
  unfold ListR at HL
  unfold ListQ
  generalize nfF x 0 = F at *
  clear h h2 h5 hT
  go_enter Tryd.func14, Tryd.ntmps14
  go_wp2_with (first | (go_at_call 52; refine HM.out.mono ?_; rintro e w1 ⟨rfl, rfl⟩) | (go_at_call 53; refine HL.out.mono ?_; rintro e w1 ⟨v, rfl, hr, hb⟩; have HR := Lib.hid (And.intro hr hb); clear hr hb))
  go_ret
  exact ⟨_, rfl, HR.out.1, HR.out.2⟩
theorem last_any {w : World} {B N : Nat} {x : X} (h : NfX w B N x) (hT : Tb w) (hs : x.pn ≤ 24) : Calls Tryd.prog 24 #[.pointer (some ⟨N, 0, none⟩)] w (ListQ (els (nfL x)) w) := by
  have HM := Lib.hid (made_any h)
  have HL := Lib.hid (list_any (nfL x) hT (Nat.lt_of_lt_of_le (nfL_lt hs) (by decide)))
  obtain ⟨ad, c, h0, h1, h2, h3, h4, h5, -⟩ := h.facts
  unfold ListR at HL
  unfold ListQ
  generalize nfL x = F at *
  clear h h2 h5 hT
  go_enter Tryd.func24, Tryd.ntmps24
  go_wp2_with (first | (go_at_call 52; refine HM.out.mono ?_; rintro e w1 ⟨rfl, rfl⟩) | (go_at_call 53; refine HL.out.mono ?_; rintro e w1 ⟨v, rfl, hr, hb⟩; have HR := Lib.hid (And.intro hr hb); clear hr hb))
  go_ret
  exact ⟨_, rfl, HR.out.1, HR.out.2⟩
theorem follow_any {w : World} {B N : Nat} {x : X} (h : NfX w B N x) (hT : Tb w) (hs : x.pn ≤ 24) (p : Int) : Calls Tryd.prog 21 #[.pointer (some ⟨N, 0, none⟩), .int .i64 p] w (ListQ (folP x p) w) := by
  have HM := Lib.hid (has_any h (by omega) p)
  unfold ListQ
  by_cases hc : 0 < p ∧ p ≤ x.pn
  · obtain ⟨k, rfl⟩ : ∃ k : Nat, p = k := ⟨p.toNat, by omega⟩
    have HL := Lib.hid (list_any (nfF x k) hT (Nat.lt_of_lt_of_le (nfF_lt hs k) (by decide)))
    obtain ⟨ad, c, h0, h1, h2, h3, h4, h5, -⟩ := h.facts
    have hk : k < 25 := by omega
    have q := h2 k hk
    have e : folP x (k : Int) = els (nfF x k) := by unfold folP; rw [if_pos hc]; rfl
    rw [e]
    rw [decide_eq_true hc] at HM
    unfold ListR at HL
    generalize nfF x k = F at *
    clear h h2 h5 hT hc e
    go_enter Tryd.func21, Tryd.ntmps21
    go_wp2_with (first | (go_at_call 55; refine HM.out.mono ?_; rintro e w1 ⟨rfl, rfl⟩) | (go_at_call 53; refine HL.out.mono ?_; rintro e w1 ⟨v, rfl, hr, hb⟩; have HR := Lib.hid (And.intro hr hb); clear hr hb))
    go_ret
    exact ⟨_, rfl, HR.out.1, HR.out.2⟩
  · have e : folP x p = [] := by unfold folP; rw [if_neg hc]
    rw [e]
    rw [decide_eq_false hc] at HM
    clear h hc e hT
    go_enter Tryd.func21, Tryd.ntmps21
    go_wp2_with (go_at_call 55; refine HM.out.mono ?_; rintro e w1 ⟨rfl, rfl⟩)
    go_ret
    exact ⟨_, rfl, World.ownsRow_nil _ _ _ _, Below.refl _ _⟩
end Go.Proofs.YtnccgaanfjaimaaDoor
