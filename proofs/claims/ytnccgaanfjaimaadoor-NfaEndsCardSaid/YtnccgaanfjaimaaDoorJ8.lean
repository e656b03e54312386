/- Texts ZM, ZI, ZN, one behind the other. -/
import Derived.Test.YtnccgaanfjaimaaDoorJ0
import Derived.Test.YtnccgaanfjaimaaDoorJ6
import Derived.Test.YtnccgaanfjaimaaDoorJ7
set_option linter.unusedSimpArgs false
set_option linter.unusedVariables false
namespace Go.Proofs.YtnccgaanfjaimaaDoor
open Go.ChangeShapes Go.WideShapes Go.ChangeAt Go.RowKit
set_option linter.unusedVariables false
set_option linter.unusedSimpArgs false

attribute [local go_sem] Oper.semAt_some

set_option maxRecDepth 100000 in
set_option maxHeartbeats 8000000 in
theorem step57_any {w : World} {B N : Nat} {x : X} (h : NfX w B N x) (hT : Tb w) (hs : x.pn ≤ 24) {fr : Nat} (hfr : fr < 2 ^ (1 + x.pn)) (l : ByteArray) :
  Calls Tryd.prog 57 #[.pointer (some ⟨N, 0, none⟩), .int .u32 fr, .string l] w fun e w' => e = .returned (.int .u32 (stepN (nf x).1.labs (nfF x) fr l : Nat)) ∧ Below w.heap.size w w' := by
 obtain ⟨w1, hw1⟩ : ∃ y, ((((w.alloc (.cells #[.pointer (some ⟨N, 0, none⟩)] 29)).alloc (.cells #[.string l] 9)).alloc (.cells #[.int .u32 0] 69)).alloc (.cells #[.int .u32 0] 69)).alloc (.cells #[.int .u32 fr] 69) = y := ⟨_, rfl⟩
 have hb1 : Below w.heap.size w w1 := by rw [← hw1]; exact (((((Below.refl _ w).alloc (Nat.le_refl _) _).alloc (by simp) _).alloc (by simp; omega) _).alloc (by simp; omega) _).alloc (by simp; omega) _
 have hz1 : w1.heap.size = w.heap.size + 5 := by rw [← hw1]; simp
 have hx3 : Boxed w1 w.heap.size 29 (.pointer (some ⟨N, 0, none⟩)) := by rw [← hw1]; exact ((((Boxed.new w _ _).alloc _).alloc _).alloc _).alloc _
 have hx5 : Boxed w1 (w.heap.size + 1) 9 (.string l) := by
  rw [← hw1]
  have h := Boxed.new (w.alloc (.cells #[.pointer (some ⟨N, 0, none⟩)] 29)) 9 (.string l)
  rw [World.size_alloc] at h
  exact ((h.alloc _).alloc _).alloc _
 have hx7 : Boxed w1 (w.heap.size + 1 + 1) 69 (.int .u32 0) := by
  rw [← hw1]
  have h := Boxed.new ((w.alloc (.cells #[.pointer (some ⟨N, 0, none⟩)] 29)).alloc (.cells #[.string l] 9)) 69 (.int .u32 0)
  rw [World.size_alloc, World.size_alloc] at h
  exact (h.alloc _).alloc _
 have hx8 : Boxed w1 (w.heap.size + 1 + 1 + 1) 69 (.int .u32 0) := by
  rw [← hw1]
  have h := Boxed.new (((w.alloc (.cells #[.pointer (some ⟨N, 0, none⟩)] 29)).alloc (.cells #[.string l] 9)).alloc (.cells #[.int .u32 0] 69)) 69 (.int .u32 0)
  rw [World.size_alloc, World.size_alloc, World.size_alloc] at h
  exact h.alloc _
 have hx9 : Boxed w1 (w.heap.size + 1 + 1 + 1 + 1) 69 (.int .u32 fr) := by
  rw [← hw1]
  have h := Boxed.new ((((w.alloc (.cells #[.pointer (some ⟨N, 0, none⟩)] 29)).alloc (.cells #[.string l] 9)).alloc (.cells #[.int .u32 0] 69)).alloc (.cells #[.int .u32 0] 69)) 69 (.int .u32 fr)
  rwa [World.size_alloc, World.size_alloc, World.size_alloc, World.size_alloc] at h
 have hfr25 : fr < 2 ^ 25 := Nat.lt_of_lt_of_le hfr (pow25 hs)
 have hfr32 : fr < 2 ^ 32 := Nat.lt_of_lt_of_le hfr25 (by decide)
 have hpos := hT.pos
 have HT1 := Lib.hid (hT.below hb1 hpos)
 have HSEQ := Lib.hid (rising_seq 11 (by decide) hx9 HT1.out hfr32)
 have HN1 := Lib.hid (h.bel hb1)
 have HB1 := Lib.hid hb1
 have HX := Lib.hid (And.intro hx3 (And.intro hx5 (And.intro hx7 hx8)))
 have HFR := Lib.hid hfr
 have HBH := Lib.hid (behN_lt (nf_bd x).1 fr)
 clear h hT hb1 hx3 hx5 hx7 hx8 hx9 hfr
 refine (callsIn_wide (n := 12)).1 ?_
 refine callsIn_of_wp_marks Tryd.func57 rfl trivial ?_ rfl
 simp only [Tryd.ntmps57, List.size_toArray, List.length_cons, List.length_nil, Nat.reduceAdd, Nat.reduceSub, Array.replicate_succ, Array.replicate_zero, List.push_toArray, List.append_toArray, List.nil_append, List.cons_append]
 refine wpIn_wide.2 ?_
 go_wp2_with fail
 go_step3
 go_wp2_with (go_at_call 68; refine (rising_any fr _).mono ?_; rintro e w1 ⟨rfl, rfl⟩)
 clear hw1
 refine wpIn_wide.1 (?_ : Code.wpIn Fence.wide 12 Tryd.prog _ _ _ _)
 refine wpIn_rangeFunc_X rfl (by omega) (gf := 84) (lb := #[.pointer (some ⟨w.heap.size + 1 + 1 + 1 + 1, 0, none⟩)]) rfl trivial (enters_of Tryd.func84 (by kernel_rfl) rfl)
  HSEQ.out KpT.trans (fun W' l' o o' hlw hl' ho _ => KpT.put (by omega)) (Below.refl _ _) (fun _ => rfl)
  (fun pre W' => (Boxed W' w.heap.size 29 (.pointer (some ⟨N, 0, none⟩)) ∧ Boxed W' (w.heap.size + 1) 9 (.string l) ∧ Boxed W' (w.heap.size + 1 + 1) 69 (.int .u32 ((orL (pre.map (nfF x)) : Nat) : Int)) ∧ Boxed W' (w.heap.size + 1 + 1 + 1) 69 (.int .u32 0)) ∧ NfX W' B N x ∧ Below w.heap.size w W' ∧ w1.heap.size ≤ W'.heap.size ∧ Tb W')
  (fun _ _ _ => False)
  ?hI (fun c s X Y h => h.elim)
  ⟨HX.out, HN1.out, HB1.out, Nat.le_refl _, HT1.out⟩
  (fun p a' W' => a' = { tmps := #[.pointer (some ⟨N, 0, none⟩), .int .u32 fr, .string l, .pointer (some ⟨w.heap.size, 0, none⟩), undef, .pointer (some ⟨w.heap.size + 1, 0, none⟩), .int .u32 0, .pointer (some ⟨w.heap.size + 1 + 1, 0, none⟩), .pointer (some ⟨w.heap.size + 1 + 1 + 1, 0, none⟩), .int .i64 p, undef, .int .u32 fr, .func (.func 84) #[] #[.pointer (some ⟨w.heap.size + 1 + 1 + 1 + 1, 0, none⟩)], .int .i64 p, undef, undef, undef, undef, undef, undef, undef, undef, undef, undef, undef, undef, undef, undef, undef, undef, undef, undef, undef, undef, undef, undef, undef, undef, undef], defers := [] })
  (fun _ _ _ _ _ h _ => h) ?assign ?body ?done (fun _ _ _ _ _ _ h _ => h.elim)
 case hI =>
  rintro pre X Y ⟨⟨h1, h2, h3, h4⟩, h5, h6, h7, h8⟩ hr
  exact ⟨⟨hr.cells h1 (by decide), hr.cells h2 (by decide), hr.cells h3 (by decide), hr.cells h4 (by decide)⟩, h5.rel hr, h6.trans ⟨hr.os, hr.tape, hr.output, hr.size, fun k hk => hr.block k (by have := h6.size; omega) (.inl (by omega))⟩, Nat.le_trans h7 hr.size, h8.low (hr.block 0 h8.pos (.inl (by omega)))⟩
 case assign =>
  intro l1 pre p W' K hI hpx hK
  have HK := Lib.hid hK
  have HI' := Lib.hid hI
  unfold encN
  clear hK hI
  gi_wp2
  exact HK.out _ _ (KeepsFrom.refl _ _) (fun h => h) HI'.out rfl
 case body =>
  rintro l1 pre p a' W hwl hloop hpx ⟨⟨h1, h2, h3, h4⟩, h5, h6, h7, h8⟩ rfl
  have hp : p < 25 := by
   have hm : p ∈ els fr := hpx.subset (by simp)
   exact Nat.lt_of_not_le fun hge => by
    have := (mem_els.1 hm).2
    rw [bit_false hfr25 hge] at this
    cases this
  have hF : ∀ q, nfF x q < 2 ^ 25 := nfF_lt hs
  have hS25 : orL (pre.map (nfF x)) < 2 ^ 25 := orL_lt fun s hs => by obtain ⟨q, _, rfl⟩ := List.mem_map.1 hs; exact hF q
  have hor := u32_or (orL (pre.map (nfF x))) (nfF x p) (by have := hS25; omega) (by have := hF p; omega)
  rw [show orL (pre.map (nfF x)) ||| nfF x p = orL ((pre ++ [p]).map (nfF x)) by rw [List.map_append, List.map_singleton, orL_snoc]] at hor
  obtain ⟨ad, c, -, -, q2, -⟩ := h5.facts
  have c2 := q2 p hp
  have hdr : Below W.heap.size W W.drew := (Below.refl _ _).drew
  have hnN : w.heap.size + 1 + 1 ≠ N := by
   obtain ⟨lv, hb⟩ := h5
   rintro rfl
   exact absurd (hb.blk.symm.trans h3) (by simp)
  have S0 := Lib.hid (show W.drew.cell? ⟨w.heap.size, 0, none⟩ = some (.pointer (some ⟨N, 0, none⟩)) ∧ W.drew.cell? ⟨N, 2 + p, none⟩ = some (.int .u32 (nfF x p : Nat)) from ⟨h1.cell, c2⟩)
  have C7 := Lib.hid (show W.drew.cell? ⟨w.heap.size + 1 + 1, 0, none⟩ = some (.int .u32 ((orL (pre.map (nfF x)) : Nat) : Int)) from h3.cell)
  have F7 := Lib.hid (show W.drew.frozen? ⟨w.heap.size + 1 + 1, 0, none⟩ = false from h3.frozen)
  have HOR := Lib.hid hor
  have hb7 := h6.trans (hdr.mono h6.size)
  have hst : ∀ (r : Nat) (a : Array Value) (t : TypeId), W.heap[r]? = some (.cells a t (0, 0)) → r ≠ w.heap.size + 1 + 1 → ∀ v, (W.drew.setCell ⟨w.heap.size + 1 + 1, 0, none⟩ v).heap[r]? = some (.cells a t (0, 0)) := fun r a t hr hne v => (Below.heap_setCell _ _ _ _ hne).trans hr
  have hset := fun v => (Boxed.set v (show Boxed W.drew (w.heap.size + 1 + 1) 69 _ from h3))
  have hnf : ∀ v, NfX (W.drew.setCell ⟨w.heap.size + 1 + 1, 0, none⟩ v) B N x := fun v => by
   obtain ⟨lv, hb⟩ := h5
   exact ⟨lv, (hb.bel hdr).other (show W.drew.heap[w.heap.size + 1 + 1]? = _ from h3) (by decide) (by decide) v⟩
  obtain ⟨G2, hG2⟩ : ∃ y, orL ((pre ++ [p]).map (nfF x)) = y := ⟨_, rfl⟩
  have HG2 := Lib.hid hG2
  rw [hG2] at HOR
  clear hG2 hor
  generalize nfF x p = G at *
  have S1 := Lib.hid (show (W.drew.setCell ⟨w.heap.size + 1 + 1, 0, none⟩ (.int .u32 (G2 : Int))).cell? ⟨w.heap.size, 0, none⟩ = some (.pointer (some ⟨N, 0, none⟩)) ∧ (W.drew.setCell ⟨w.heap.size + 1 + 1, 0, none⟩ (.int .u32 (G2 : Int))).cell? ⟨N, 2 + p, none⟩ = some (.int .u32 (G : Int)) from
   ⟨Boxed.cell (hst _ _ _ h1 (by omega) _), (World.cell?_of_block (a := ⟨N, 2 + p, none⟩) (Below.heap_setCell _ _ _ _ (by show N ≠ w.heap.size + 1 + 1; exact hnN.symm))).trans c2⟩)
  have FIN := Lib.hid (show KeepsFrom w1.heap.size W (W.drew.setCell ⟨w.heap.size + 1 + 1, 0, none⟩ (.int .u32 (G2 : Int))) ∧ KpT W (W.drew.setCell ⟨w.heap.size + 1 + 1, 0, none⟩ (.int .u32 (G2 : Int))) ∧ (Boxed (W.drew.setCell ⟨w.heap.size + 1 + 1, 0, none⟩ (.int .u32 (G2 : Int))) w.heap.size 29 (.pointer (some ⟨N, 0, none⟩)) ∧ Boxed (W.drew.setCell ⟨w.heap.size + 1 + 1, 0, none⟩ (.int .u32 (G2 : Int))) (w.heap.size + 1) 9 (.string l) ∧ Boxed (W.drew.setCell ⟨w.heap.size + 1 + 1, 0, none⟩ (.int .u32 (G2 : Int))) (w.heap.size + 1 + 1) 69 (.int .u32 (G2 : Int)) ∧ Boxed (W.drew.setCell ⟨w.heap.size + 1 + 1, 0, none⟩ (.int .u32 (G2 : Int))) (w.heap.size + 1 + 1 + 1) 69 (.int .u32 0)) ∧ NfX (W.drew.setCell ⟨w.heap.size + 1 + 1, 0, none⟩ (.int .u32 (G2 : Int))) B N x ∧ Below w.heap.size w (W.drew.setCell ⟨w.heap.size + 1 + 1, 0, none⟩ (.int .u32 (G2 : Int))) ∧ w1.heap.size ≤ (W.drew.setCell ⟨w.heap.size + 1 + 1, 0, none⟩ (.int .u32 (G2 : Int))).heap.size ∧ Tb (W.drew.setCell ⟨w.heap.size + 1 + 1, 0, none⟩ (.int .u32 (G2 : Int)))
   from ⟨((below_others hdr).from _).trans ((KeepsOthers.setCell W.drew _ _).from _), fun h => h.low (Below.heap_setCell _ _ _ _ (by show 0 ≠ w.heap.size + 1 + 1; omega)), ⟨hst _ _ _ h1 (by omega) _, hst _ _ _ h2 (by omega) _, hset _, hst _ _ _ h4 (by omega) _⟩, hnf _, hb7.setCell (by show w.heap.size ≤ w.heap.size + 1 + 1; omega) _, by simpa using h7, h8.low (Below.heap_setCell _ _ _ _ (by show 0 ≠ w.heap.size + 1 + 1; omega))⟩)
  clear h1 h2 h3 h4 h5 h6 h7 h8 hF hS25 q2 c2 hb7 hst hset hnf
  gi_wp2
  refine wpIn_round_held (S := fun w' => w'.cell? ⟨w.heap.size, 0, none⟩ = some (.pointer (some ⟨N, 0, none⟩)) ∧ w'.cell? ⟨N, 2 + p, none⟩ = some (.int .u32 (G : Int))) (by kernel_rfl) (by kernel_rfl) (fun ⟨_, _, h⟩ => h) S0.out (fun _ => ?_)
  refine wpAnyH_take (i := 1) (v := .pointer (some ⟨N, 0, none⟩)) rfl (by kernel_rfl) (by kernel_rfl) (by kernel_rfl) (fun _ _ _ h => h) (Or.inl ⟨by rfl, ?_⟩) S0.out ?_
  ·intro w hSw
   obtain ⟨hs0, hs1⟩ := hSw
   go_simp
  try simp only [Act.put, z1, z2, z3, z4, z5, z6]
  refine wpAnyH_take (i := 2) (v := .int .i64 p) rfl (by kernel_rfl) (by kernel_rfl) (by kernel_rfl) (fun _ _ _ h => h) (Or.inl ⟨by rfl, ?_⟩) S0.out ?_
  ·intro w hSw
   obtain ⟨hs0, hs1⟩ := hSw
   go_simp
  try simp only [Act.put, z1, z2, z3, z4, z5, z6]
  refine wpAnyH_take (i := 3) (v := .pointer (some ⟨N, 0, none⟩)) rfl (by kernel_rfl) (by kernel_rfl) (by kernel_rfl) (fun _ _ _ h => h) (Or.inl ⟨by rfl, ?_⟩) S0.out ?_
  ·intro w hSw
   obtain ⟨hs0, hs1⟩ := hSw
   go_simp
  try simp only [Act.put, z1, z2, z3, z4, z5, z6]
  refine wpAnyH_take (i := 4) (v := .pointer (some ⟨N, 2, none⟩)) rfl (by kernel_rfl) (by kernel_rfl) (by kernel_rfl) (fun _ _ _ h => h) (Or.inl ⟨by rfl, ?_⟩) S0.out ?_
  ·intro w hSw
   obtain ⟨hs0, hs1⟩ := hSw
   go_simp
  try simp only [Act.put, z1, z2, z3, z4, z5, z6]
  refine wpAnyH_take (i := 5) (v := .pointer (some ⟨N, 2 + p, none⟩)) rfl (by kernel_rfl) (by kernel_rfl) (by kernel_rfl) (fun _ _ _ h => h) (Or.inl ⟨by rfl, ?_⟩) S0.out ?_
  ·intro w hSw
   obtain ⟨hs0, hs1⟩ := hSw
   go_simp
   intro hge
   omega
  try simp only [Act.put, z1, z2, z3, z4, z5, z6]
  refine wpAnyH_take (i := 6) (v := .int .u32 (G : Int)) rfl (by kernel_rfl) (by kernel_rfl) (by kernel_rfl) (fun _ _ _ h => h) (Or.inl ⟨by rfl, ?_⟩) S0.out ?_
  ·intro w hSw
   obtain ⟨hs0, hs1⟩ := hSw
   go_simp
  try simp only [Act.put, z1, z2, z3, z4, z5, z6]
  refine wpAnyH_ready (rs := [0]) (by kernel_rfl) (by simp) ?_
  refine AllReadyH.cons rfl (fun K hK => ?_) (AllReadyH.nil)
  have c7 := C7.out
  go_simp
  refine hK.out _ _ S0.out (fun _ => ?_)
  clear hK
  try simp only [Act.put, z1, z2, z3, z4, z5, z6]
  refine wpAnyH_take (i := 7) (v := .int .u32 (G2 : Int)) rfl (by kernel_rfl) (by kernel_rfl) (by kernel_rfl) (fun _ _ _ h => h) (Or.inl ⟨by rfl, ?_⟩) S0.out ?_
  ·intro w hSw
   obtain ⟨hs0, hs1⟩ := hSw
   have hor := HOR.out
   go_simp
  try simp only [Act.put, z1, z2, z3, z4, z5, z6]
  refine wpAnyH_ready (rs := [8]) (by kernel_rfl) (by simp) ?_
  refine AllReadyH.cons rfl (fun K hK => ?_) (AllReadyH.nil)
  have c7 := C7.out
  have f7 := F7.out
  go_simp
  refine hK.out _ _ S1.out (fun _ => ?_)
  clear hK
  try simp only [Act.put, z1, z2, z3, z4, z5, z6]
  refine ⟨by kernel_rfl, ?_⟩
  have e2 := HG2.out
  subst e2
  exact FIN.out
 case done =>
  rintro D W hD ⟨⟨h1, h2, h3, h4⟩, h5, h6, h7, h8⟩ hK
  have h3' : Boxed W (w.heap.size + 1 + 1) 69 (.int .u32 ((behN (nfF x) fr : Nat) : Int)) := h3
  have HSTEP := Lib.hid (show stepN (nf x).1.labs (nfF x) fr l = toN (nf x).1.labs (behN (nfF x) fr) l from rfl)
  obtain ⟨bh, hbh⟩ : ∃ y, behN (nfF x) fr = y := ⟨_, rfl⟩
  rw [hbh] at h3' HSTEP HBH
  have c7 := h3'.cell
  have hD0 := (Array.getElem?_eq_some_iff.1 hK).1
  have hbw : Below W.heap.size W (W.alloc (.cells #[.int .u32 bh] 69)) := (Below.refl _ W).alloc (Nat.le_refl _) _
  have hbx := at_push W (.cells #[.int .u32 bh] 69)
  have hbh25 : bh < 2 ^ 25 := Nat.lt_of_lt_of_le HBH.out (pow25 hs)
  have hbh32 : bh < 2 ^ 32 := Nat.lt_of_lt_of_le hbh25 (by decide)
  have hz2 : (W.alloc (.cells #[.int .u32 bh] 69)).heap.size = W.heap.size + 1 := by simp
  have J1 := Lib.hid (show (Boxed (W.alloc (.cells #[.int .u32 bh] 69)) w.heap.size 29 (.pointer (some ⟨N, 0, none⟩)) ∧ Boxed (W.alloc (.cells #[.int .u32 bh] 69)) (w.heap.size + 1) 9 (.string l) ∧ Boxed (W.alloc (.cells #[.int .u32 bh] 69)) (w.heap.size + 1 + 1 + 1) 69 (.int .u32 ((toN (nf x).1.labs 0 l : Nat) : Int))) ∧ NfX (W.alloc (.cells #[.int .u32 bh] 69)) B N x ∧ Below w.heap.size w (W.alloc (.cells #[.int .u32 bh] 69)) ∧ Tb (W.alloc (.cells #[.int .u32 bh] 69)) ∧ (W.alloc (.cells #[.int .u32 bh] 69)).heap[D]? = some (.deferred (some []))
   from ⟨⟨h1.alloc _, h2.alloc _, h4.alloc _⟩, h5.bel hbw, h6.trans (hbw.mono h6.size), h8.below hbw h8.pos, (hbw.block D hD0).trans hK⟩)
  have HSEQ2 := Lib.hid (rising_seq 11 (by decide) hbx J1.out.2.2.2.1 hbh32)
  have hwW : w.heap.size + 5 ≤ W.heap.size := by omega
  have hDn : D ≠ w.heap.size + 1 + 1 + 1 := by rintro rfl; rw [h4] at hK; cases hK
  clear h1 h2 h3 h3' h4 h5 h6 h7 h8 hK hbw hbx hbh HSEQ HX HN1 HB1 HT1
  go_wp2_with fail
  go_step3
  go_wp2_with (go_at_call 68; refine (rising_any bh _).mono ?_; rintro e w1 ⟨rfl, rfl⟩)
  clear c7
  obtain ⟨W2, hW2⟩ : ∃ y, W.alloc (.cells #[.int .u32 bh] 69) = y := ⟨_, rfl⟩
  rw [hW2] at J1 HSEQ2 hz2 ⊢
  clear hW2
  refine wpIn_wide.1 (?_ : Code.wpIn Fence.wide 12 Tryd.prog _ _ _ _)
  refine wpIn_rangeFunc_X rfl (by omega) (gf := 84) (lb := #[.pointer (some ⟨W.heap.size, 0, none⟩)]) rfl trivial (enters_of Tryd.func84 (by kernel_rfl) rfl)
   HSEQ2.out KpT.trans (fun W' l' o o' hlw hl' ho _ => KpT.put (by omega)) (Below.refl _ _) (fun _ => rfl)
   (fun pre W' => (Boxed W' w.heap.size 29 (.pointer (some ⟨N, 0, none⟩)) ∧ Boxed W' (w.heap.size + 1) 9 (.string l) ∧ Boxed W' (w.heap.size + 1 + 1 + 1) 69 (.int .u32 ((orL ((pre.filter fun p => decide ((nf x).1.labs[p]?.getD ⟨#[]⟩ = l)).map (2 ^ ·)) : Nat) : Int))) ∧ NfX W' B N x ∧ Below w.heap.size w W' ∧ W2.heap.size ≤ W'.heap.size ∧ Tb W' ∧ W'.heap[D]? = some (.deferred (some [])))
   (fun _ _ _ => False)
   ?hI2 (fun c s X Y h => h.elim)
   ⟨J1.out.1, J1.out.2.1, J1.out.2.2.1, Nat.le_refl _, J1.out.2.2.2.1, J1.out.2.2.2.2⟩
   (fun p a' W' => a' = { tmps := #[.pointer (some ⟨N, 0, none⟩), .int .u32 fr, .string l, .pointer (some ⟨w.heap.size, 0, none⟩), undef, .pointer (some ⟨w.heap.size + 1, 0, none⟩), .int .u32 0, .pointer (some ⟨w.heap.size + 1 + 1, 0, none⟩), .pointer (some ⟨w.heap.size + 1 + 1 + 1, 0, none⟩), undef, .int .i64 p, .int .u32 fr, .func (.func 84) #[] #[.pointer (some ⟨w.heap.size + 1 + 1 + 1 + 1, 0, none⟩)], undef, undef, undef, undef, undef, undef, undef, undef, undef, .int .u32 bh, .func (.func 84) #[] #[.pointer (some ⟨W.heap.size, 0, none⟩)], .int .i64 p, undef, undef, undef, undef, undef, undef, undef, undef, undef, undef, undef, undef, undef, undef], defers := [] })
   (fun _ _ _ _ _ h _ => h) ?assign2 ?body2 ?done2 (fun _ _ _ _ _ _ h _ => h.elim)
  case hI2 =>
   rintro pre X Y ⟨⟨h1, h2, h4⟩, h5, h6, h7, h8, h9⟩ hr
   exact ⟨⟨hr.cells h1 (by decide), hr.cells h2 (by decide), hr.cells h4 (by decide)⟩, h5.rel hr, h6.trans ⟨hr.os, hr.tape, hr.output, hr.size, fun k hk => hr.block k (by have := h6.size; omega) (.inl (by omega))⟩, Nat.le_trans h7 hr.size, h8.low (hr.block 0 h8.pos (.inl (by omega))), (hr.block D (Array.getElem?_eq_some_iff.1 h9).1 (.inl (by omega))).trans h9⟩
  case assign2 =>
   intro l1 pre p W' K hI hpx hK
   have HK := Lib.hid hK
   have HI' := Lib.hid hI
   unfold encN
   clear hK hI
   gi_wp2
   exact HK.out _ _ (KeepsFrom.refl _ _) (fun h => h) HI'.out rfl
  case body2 =>
   rintro l1 pre p a' W hwl hloop hpx ⟨⟨h1, h2, h4⟩, h5, h6, h7, h8, h9⟩ rfl
   have hp : p < x.pn + 1 := by
    have hm : p ∈ els bh := hpx.subset (by simp)
    exact Nat.lt_of_not_le fun hge => by
     have := (mem_els.1 hm).2
     rw [bit_false HBH.out (by omega)] at this
     cases this
   obtain ⟨ad, c, -, q1, -, -, -, q5, -⟩ := h5.facts
   have q5 := q5 p hp
   have hml : p < ((x.pn + 1 : Nat) : Int).toNat := by omega
   have hml2 : ((x.pn + 1 : Nat) : Int).toNat ≤ 1000 := by omega
   generalize ((x.pn + 1 : Nat) : Int).toNat = m at *
   have hflt : ∀ b, decide ((nf x).1.labs[p]?.getD ⟨#[]⟩ = l) = b → (pre ++ [p]).filter (fun p => decide ((nf x).1.labs[p]?.getD ⟨#[]⟩ = l)) = pre.filter (fun p => decide ((nf x).1.labs[p]?.getD ⟨#[]⟩ = l)) ++ (if b then [p] else []) := fun b hb => by
    rw [List.filter_append, List.filter_cons, List.filter_nil, hb]
   have hdr : Below W.heap.size W W.drew := (Below.refl _ _).drew
   have S0 := Lib.hid (show W.drew.cell? ⟨w.heap.size, 0, none⟩ = some (.pointer (some ⟨N, 0, none⟩)) ∧ W.drew.cell? ⟨N, 1, none⟩ = some (.slice (some ad) m c) ∧ W.drew.cell? (ad.add p) = some (.string ((nf x).1.labs[p]?.getD ⟨#[]⟩)) ∧ W.drew.cell? ⟨w.heap.size + 1, 0, none⟩ = some (.string l) from ⟨h1.cell, q1, q5, h2.cell⟩)
   have HH := Lib.hid (And.intro h1 (And.intro h2 (And.intro h4 (And.intro h5 (And.intro h6 (And.intro h7 (And.intro h8 h9)))))))
   obtain ⟨lp, hlp⟩ : ∃ y, (nf x).1.labs[p]?.getD ⟨#[]⟩ = y := ⟨_, rfl⟩
   rw [hlp] at S0 hflt
   clear h1 h2 h4 h5 h6 h7 h8 h9 q1 q5
   by_cases heq : lp = l
   ·subst heq
    have hf2 := hflt true (by simp)
    have hp32 : p < 32 := by omega
    have hp2 : (2 : Nat) ^ p < 4294967296 := Nat.pow_lt_pow_right (by decide : 1 < 2) hp32
    have hT32 : orL ((pre.filter fun p => decide ((nf x).1.labs[p]?.getD ⟨#[]⟩ = lp)).map (2 ^ ·)) < 2 ^ 32 := orL_lt fun s hs => by
     obtain ⟨q, hq, rfl⟩ := List.mem_map.1 hs
     have hq2 : q ∈ els bh := hpx.subset (List.mem_append_left _ (List.mem_filter.1 hq).1)
     exact Nat.pow_lt_pow_right (by decide : 1 < 2) (mem_els.1 hq2).1
    have hor := u32_or (orL ((pre.filter fun p => decide ((nf x).1.labs[p]?.getD ⟨#[]⟩ = lp)).map (2 ^ ·))) (2 ^ p) (by omega) hp2
    rw [show orL ((pre.filter fun p => decide ((nf x).1.labs[p]?.getD ⟨#[]⟩ = lp)).map (2 ^ ·)) ||| 2 ^ p = orL (((pre ++ [p]).filter fun p => decide ((nf x).1.labs[p]?.getD ⟨#[]⟩ = lp)).map (2 ^ ·)) by rw [hf2, if_pos rfl, List.map_append, List.map_singleton, orL_snoc]] at hor
    have HOR := Lib.hid hor
    have HONLY := Lib.hid (fun W => only_any p hp32 W)
    have hdr2 : Below W.heap.size W W.drew.drew := hdr.drew
    obtain ⟨h1, h2, h4, h5, h6, h7, h8, h9⟩ := HH.out
    have C8 := Lib.hid (show W.drew.drew.cell? ⟨w.heap.size + 1 + 1 + 1, 0, none⟩ = some (.int .u32 ((orL ((pre.filter fun p => decide ((nf x).1.labs[p]?.getD ⟨#[]⟩ = lp)).map (2 ^ ·)) : Nat) : Int)) from h4.cell)
    have F8 := Lib.hid (show W.drew.drew.frozen? ⟨w.heap.size + 1 + 1 + 1, 0, none⟩ = false from h4.frozen)
    obtain ⟨G2, hG2⟩ : ∃ y, orL (((pre ++ [p]).filter fun p => decide ((nf x).1.labs[p]?.getD ⟨#[]⟩ = lp)).map (2 ^ ·)) = y := ⟨_, rfl⟩
    have HG2 := Lib.hid hG2
    rw [hG2] at HOR
    have FIN := Lib.hid (show KeepsFrom W2.heap.size W (W.drew.drew.setCell ⟨w.heap.size + 1 + 1 + 1, 0, none⟩ (.int .u32 (G2 : Int))) ∧ KpT W (W.drew.drew.setCell ⟨w.heap.size + 1 + 1 + 1, 0, none⟩ (.int .u32 (G2 : Int))) ∧ (Boxed (W.drew.drew.setCell ⟨w.heap.size + 1 + 1 + 1, 0, none⟩ (.int .u32 (G2 : Int))) w.heap.size 29 (.pointer (some ⟨N, 0, none⟩)) ∧ Boxed (W.drew.drew.setCell ⟨w.heap.size + 1 + 1 + 1, 0, none⟩ (.int .u32 (G2 : Int))) (w.heap.size + 1) 9 (.string lp) ∧ Boxed (W.drew.drew.setCell ⟨w.heap.size + 1 + 1 + 1, 0, none⟩ (.int .u32 (G2 : Int))) (w.heap.size + 1 + 1 + 1) 69 (.int .u32 (G2 : Int))) ∧ NfX (W.drew.drew.setCell ⟨w.heap.size + 1 + 1 + 1, 0, none⟩ (.int .u32 (G2 : Int))) B N x ∧ Below w.heap.size w (W.drew.drew.setCell ⟨w.heap.size + 1 + 1 + 1, 0, none⟩ (.int .u32 (G2 : Int))) ∧ W2.heap.size ≤ (W.drew.drew.setCell ⟨w.heap.size + 1 + 1 + 1, 0, none⟩ (.int .u32 (G2 : Int))).heap.size ∧ Tb (W.drew.drew.setCell ⟨w.heap.size + 1 + 1 + 1, 0, none⟩ (.int .u32 (G2 : Int))) ∧ (W.drew.drew.setCell ⟨w.heap.size + 1 + 1 + 1, 0, none⟩ (.int .u32 (G2 : Int))).heap[D]? = some (.deferred (some []))
     from ⟨((below_others hdr2).from _).trans ((KeepsOthers.setCell W.drew.drew _ _).from _), fun h => h.low (Below.heap_setCell _ _ _ _ (by show 0 ≠ w.heap.size + 1 + 1 + 1; omega)), ⟨(Below.heap_setCell _ _ _ _ (by show w.heap.size ≠ w.heap.size + 1 + 1 + 1; omega)).trans h1, (Below.heap_setCell _ _ _ _ (by show w.heap.size + 1 ≠ w.heap.size + 1 + 1 + 1; omega)).trans h2, Boxed.set _ (show Boxed W.drew.drew _ _ _ from h4)⟩, (by obtain ⟨lv, hb⟩ := h5; exact ⟨lv, (hb.bel hdr2).other (show W.drew.drew.heap[w.heap.size + 1 + 1 + 1]? = _ from h4) (by decide) (by decide) _⟩), (h6.trans (hdr2.mono h6.size)).setCell (by show w.heap.size ≤ w.heap.size + 1 + 1 + 1; omega) _, by simpa using h7, h8.low (Below.heap_setCell _ _ _ _ (by show 0 ≠ w.heap.size + 1 + 1 + 1; omega)), (Below.heap_setCell _ _ _ _ (by show D ≠ w.heap.size + 1 + 1 + 1; exact hDn)).trans h9⟩)
    clear h1 h2 h4 h5 h6 h7 h8 h9 hG2 hor hT32 hp2 hf2 hflt hlp hdr2
    generalize orL ((pre.filter fun p => decide ((nf x).1.labs[p]?.getD ⟨#[]⟩ = lp)).map (2 ^ ·)) = Tt at *
    generalize hpw : (2 : Nat) ^ p = pw at *
    clear hpw
    gi_wp2
    refine wpIn_round_held (S := fun w' => w'.cell? ⟨w.heap.size, 0, none⟩ = some (.pointer (some ⟨N, 0, none⟩)) ∧ w'.cell? ⟨N, 1, none⟩ = some (.slice (some ad) m c) ∧ w'.cell? (ad.add p) = some (.string lp) ∧ w'.cell? ⟨w.heap.size + 1, 0, none⟩ = some (.string lp)) (by kernel_rfl) (by kernel_rfl) (fun ⟨_, _, h⟩ => h) S0.out (fun _ => ?_)
    refine wpAnyH_take (i := 0) (v := .pointer (some ⟨N, 0, none⟩)) rfl (by kernel_rfl) (by kernel_rfl) (by kernel_rfl) (fun _ _ _ h => h) (Or.inl ⟨by rfl, ?_⟩) S0.out ?_
    ·intro w hSw
     obtain ⟨hs0, hs1, hs2, hs3⟩ := hSw
     go_simp
    try simp only [Act.put, z1, z2, z3, z4, z5, z6]
    refine wpAnyH_take (i := 1) (v := .pointer (some ⟨N, 0, none⟩)) rfl (by kernel_rfl) (by kernel_rfl) (by kernel_rfl) (fun _ _ _ h => h) (Or.inl ⟨by rfl, ?_⟩) S0.out ?_
    ·intro w hSw
     obtain ⟨hs0, hs1, hs2, hs3⟩ := hSw
     go_simp
    try simp only [Act.put, z1, z2, z3, z4, z5, z6]
    refine wpAnyH_take (i := 2) (v := .pointer (some ⟨N, 1, none⟩)) rfl (by kernel_rfl) (by kernel_rfl) (by kernel_rfl) (fun _ _ _ h => h) (Or.inl ⟨by rfl, ?_⟩) S0.out ?_
    ·intro w hSw
     obtain ⟨hs0, hs1, hs2, hs3⟩ := hSw
     go_simp
    try simp only [Act.put, z1, z2, z3, z4, z5, z6]
    refine wpAnyH_take (i := 3) (v := .slice (some ad) m c) rfl (by kernel_rfl) (by kernel_rfl) (by kernel_rfl) (fun _ _ _ h => h) (Or.inl ⟨by rfl, ?_⟩) S0.out ?_
    ·intro w hSw
     obtain ⟨hs0, hs1, hs2, hs3⟩ := hSw
     go_simp
    try simp only [Act.put, z1, z2, z3, z4, z5, z6]
    refine wpAnyH_take (i := 4) (v := .int .i64 p) rfl (by kernel_rfl) (by kernel_rfl) (by kernel_rfl) (fun _ _ _ h => h) (Or.inl ⟨by rfl, ?_⟩) S0.out ?_
    ·intro w hSw
     obtain ⟨hs0, hs1, hs2, hs3⟩ := hSw
     go_simp
    try simp only [Act.put, z1, z2, z3, z4, z5, z6]
    refine wpAnyH_take (i := 5) (v := .pointer (some (ad.add p))) rfl (by kernel_rfl) (by kernel_rfl) (by kernel_rfl) (fun _ _ _ h => h) (Or.inl ⟨by rfl, ?_⟩) S0.out ?_
    ·intro w hSw
     obtain ⟨hs0, hs1, hs2, hs3⟩ := hSw
     go_simp
    try simp only [Act.put, z1, z2, z3, z4, z5, z6]
    refine wpAnyH_take (i := 6) (v := .string lp) rfl (by kernel_rfl) (by kernel_rfl) (by kernel_rfl) (fun _ _ _ h => h) (Or.inl ⟨by rfl, ?_⟩) S0.out ?_
    ·intro w hSw
     obtain ⟨hs0, hs1, hs2, hs3⟩ := hSw
     go_simp
    try simp only [Act.put, z1, z2, z3, z4, z5, z6]
    refine wpAnyH_take (i := 7) (v := .string lp) rfl (by kernel_rfl) (by kernel_rfl) (by kernel_rfl) (fun _ _ _ h => h) (Or.inl ⟨by rfl, ?_⟩) S0.out ?_
    ·intro w hSw
     obtain ⟨hs0, hs1, hs2, hs3⟩ := hSw
     go_simp
    try simp only [Act.put, z1, z2, z3, z4, z5, z6]
    refine wpAnyH_take (i := 8) (v := .bool false) rfl (by kernel_rfl) (by kernel_rfl) (by kernel_rfl) (fun _ _ _ h => h) (Or.inl ⟨by rfl, ?_⟩) S0.out ?_
    ·intro w hSw
     obtain ⟨hs0, hs1, hs2, hs3⟩ := hSw
     go_simp
    try simp only [Act.put, z1, z2, z3, z4, z5, z6]
    refine ⟨by kernel_rfl, ?_⟩
    gi_wp2
    refine wpIn_round_held (S := fun _ => True) (by kernel_rfl) (by kernel_rfl) (fun ⟨_, _, h⟩ => h) trivial (fun _ => ?_)
    refine wpAnyH_take (i := 1) (v := .int .i64 p) rfl (by kernel_rfl) (by kernel_rfl) (by kernel_rfl) (fun _ _ _ h => h) (Or.inl ⟨by rfl, ?_⟩) trivial ?_
    ·intro w hSw
     go_simp
    try simp only [Act.put, z1, z2, z3, z4, z5, z6]
    refine wpAnyH_ready (rs := [0, 2]) (by kernel_rfl) (by simp) ?_
    refine AllReadyH.cons rfl (fun K hK => ?_) (AllReadyH.cons rfl (fun K hK => ?_) (AllReadyH.nil))
    ·have c8 := C8.out
     go_simp
     refine hK.out _ _ trivial (fun _ => ?_)
     clear hK c8
     try simp only [Act.put, z1, z2, z3, z4, z5, z6]
     refine wpAnyH_ready (rs := [2]) (by kernel_rfl) (by simp) ?_
     refine AllReadyH.cons rfl (fun K hK => ?_) (AllReadyH.nil)
     go_simp
     refine (HONLY.out _).mono ?_
     rintro e w' ⟨rfl, rfl⟩
     refine hK.out _ _ trivial (fun _ => ?_)
     clear hK
     try simp only [Act.put, z1, z2, z3, z4, z5, z6]
     refine wpAnyH_take (i := 3) (v := .int .u32 (G2 : Int)) rfl (by kernel_rfl) (by kernel_rfl) (by kernel_rfl) (fun _ _ _ h => h) (Or.inl ⟨by rfl, ?_⟩) trivial ?_
     ·intro w hSw
      have hor := HOR.out
      go_simp
     try simp only [Act.put, z1, z2, z3, z4, z5, z6]
     refine wpAnyH_ready (rs := [4]) (by kernel_rfl) (by simp) ?_
     refine AllReadyH.cons rfl (fun K hK => ?_) (AllReadyH.nil)
     have c8 := C8.out
     have f8 := F8.out
     go_simp
     refine hK.out _ _ trivial (fun _ => ?_)
     clear hK
     try simp only [Act.put, z1, z2, z3, z4, z5, z6]
     refine ⟨by kernel_rfl, ?_⟩
     have e2 := HG2.out
     subst e2
     exact FIN.out
    ·go_simp
     refine (HONLY.out _).mono ?_
     rintro e w' ⟨rfl, rfl⟩
     refine hK.out _ _ trivial (fun _ => ?_)
     clear hK
     try simp only [Act.put, z1, z2, z3, z4, z5, z6]
     refine wpAnyH_ready (rs := [0]) (by kernel_rfl) (by simp) ?_
     refine AllReadyH.cons rfl (fun K hK => ?_) (AllReadyH.nil)
     have c8 := C8.out
     go_simp
     refine hK.out _ _ trivial (fun _ => ?_)
     clear hK c8
     try simp only [Act.put, z1, z2, z3, z4, z5, z6]
     refine wpAnyH_take (i := 3) (v := .int .u32 (G2 : Int)) rfl (by kernel_rfl) (by kernel_rfl) (by kernel_rfl) (fun _ _ _ h => h) (Or.inl ⟨by rfl, ?_⟩) trivial ?_
     ·intro w hSw
      have hor := HOR.out
      go_simp
     try simp only [Act.put, z1, z2, z3, z4, z5, z6]
     refine wpAnyH_ready (rs := [4]) (by kernel_rfl) (by simp) ?_
     refine AllReadyH.cons rfl (fun K hK => ?_) (AllReadyH.nil)
     have c8 := C8.out
     have f8 := F8.out
     go_simp
     refine hK.out _ _ trivial (fun _ => ?_)
     clear hK
     try simp only [Act.put, z1, z2, z3, z4, z5, z6]
     refine ⟨by kernel_rfl, ?_⟩
     have e2 := HG2.out
     subst e2
     exact FIN.out
   ·have hne : lp.toList ≠ l.toList := fun h => heq (by
     have : lp.data.toList = l.data.toList := by rw [← ByteArray.toList_eq, ← ByteArray.toList_eq]; exact h
     exact ByteArray.ext (Array.toList_inj.1 this))
    have hf2 := hflt false (by simpa using heq)
    rw [if_neg (by simp), List.append_nil] at hf2
    obtain ⟨h1, h2, h4, h5, h6, h7, h8, h9⟩ := HH.out
    rw [← hf2] at h4
    have FIN := Lib.hid (And.intro ((below_others hdr).from W2.heap.size) (And.intro (show KpT W W.drew from fun h => h.below hdr h.pos) (And.intro (show Boxed W.drew w.heap.size 29 _ ∧ Boxed W.drew (w.heap.size + 1) 9 _ ∧ Boxed W.drew (w.heap.size + 1 + 1 + 1) 69 _ from ⟨h1, h2, h4⟩) (And.intro (h5.bel hdr) (And.intro (h6.trans (hdr.mono h6.size)) (And.intro (show W2.heap.size ≤ W.drew.heap.size from h7) (And.intro (h8.below hdr h8.pos) (show W.drew.heap[D]? = _ from h9))))))))
    clear h1 h2 h4 h5 h6 h7 h8 h9 hf2 hflt hlp heq
    gi_wp2
    refine wpIn_round_held (S := fun w' => w'.cell? ⟨w.heap.size, 0, none⟩ = some (.pointer (some ⟨N, 0, none⟩)) ∧ w'.cell? ⟨N, 1, none⟩ = some (.slice (some ad) m c) ∧ w'.cell? (ad.add p) = some (.string lp) ∧ w'.cell? ⟨w.heap.size + 1, 0, none⟩ = some (.string l)) (by kernel_rfl) (by kernel_rfl) (fun ⟨_, _, h⟩ => h) S0.out (fun _ => ?_)
    refine wpAnyH_take (i := 0) (v := .pointer (some ⟨N, 0, none⟩)) rfl (by kernel_rfl) (by kernel_rfl) (by kernel_rfl) (fun _ _ _ h => h) (Or.inl ⟨by rfl, ?_⟩) S0.out ?_
    ·intro w hSw
     obtain ⟨hs0, hs1, hs2, hs3⟩ := hSw
     go_simp
    try simp only [Act.put, z1, z2, z3, z4, z5, z6]
    refine wpAnyH_take (i := 1) (v := .pointer (some ⟨N, 0, none⟩)) rfl (by kernel_rfl) (by kernel_rfl) (by kernel_rfl) (fun _ _ _ h => h) (Or.inl ⟨by rfl, ?_⟩) S0.out ?_
    ·intro w hSw
     obtain ⟨hs0, hs1, hs2, hs3⟩ := hSw
     go_simp
    try simp only [Act.put, z1, z2, z3, z4, z5, z6]
    refine wpAnyH_take (i := 2) (v := .pointer (some ⟨N, 1, none⟩)) rfl (by kernel_rfl) (by kernel_rfl) (by kernel_rfl) (fun _ _ _ h => h) (Or.inl ⟨by rfl, ?_⟩) S0.out ?_
    ·intro w hSw
     obtain ⟨hs0, hs1, hs2, hs3⟩ := hSw
     go_simp
    try simp only [Act.put, z1, z2, z3, z4, z5, z6]
    refine wpAnyH_take (i := 3) (v := .slice (some ad) m c) rfl (by kernel_rfl) (by kernel_rfl) (by kernel_rfl) (fun _ _ _ h => h) (Or.inl ⟨by rfl, ?_⟩) S0.out ?_
    ·intro w hSw
     obtain ⟨hs0, hs1, hs2, hs3⟩ := hSw
     go_simp
    try simp only [Act.put, z1, z2, z3, z4, z5, z6]
    refine wpAnyH_take (i := 4) (v := .int .i64 p) rfl (by kernel_rfl) (by kernel_rfl) (by kernel_rfl) (fun _ _ _ h => h) (Or.inl ⟨by rfl, ?_⟩) S0.out ?_
    ·intro w hSw
     obtain ⟨hs0, hs1, hs2, hs3⟩ := hSw
     go_simp
    try simp only [Act.put, z1, z2, z3, z4, z5, z6]
    refine wpAnyH_take (i := 5) (v := .pointer (some (ad.add p))) rfl (by kernel_rfl) (by kernel_rfl) (by kernel_rfl) (fun _ _ _ h => h) (Or.inl ⟨by rfl, ?_⟩) S0.out ?_
    ·intro w hSw
     obtain ⟨hs0, hs1, hs2, hs3⟩ := hSw
     go_simp
    try simp only [Act.put, z1, z2, z3, z4, z5, z6]
    refine wpAnyH_take (i := 6) (v := .string lp) rfl (by kernel_rfl) (by kernel_rfl) (by kernel_rfl) (fun _ _ _ h => h) (Or.inl ⟨by rfl, ?_⟩) S0.out ?_
    ·intro w hSw
     obtain ⟨hs0, hs1, hs2, hs3⟩ := hSw
     go_simp
    try simp only [Act.put, z1, z2, z3, z4, z5, z6]
    refine wpAnyH_take (i := 7) (v := .string l) rfl (by kernel_rfl) (by kernel_rfl) (by kernel_rfl) (fun _ _ _ h => h) (Or.inl ⟨by rfl, ?_⟩) S0.out ?_
    ·intro w hSw
     obtain ⟨hs0, hs1, hs2, hs3⟩ := hSw
     go_simp
    try simp only [Act.put, z1, z2, z3, z4, z5, z6]
    refine wpAnyH_take (i := 8) (v := .bool true) rfl (by kernel_rfl) (by kernel_rfl) (by kernel_rfl) (fun _ _ _ h => h) (Or.inl ⟨by rfl, ?_⟩) S0.out ?_
    ·intro w hSw
     obtain ⟨hs0, hs1, hs2, hs3⟩ := hSw
     go_simp
    try simp only [Act.put, z1, z2, z3, z4, z5, z6]
    refine ⟨by kernel_rfl, ?_⟩
    gi_wp2
    exact FIN.out
  case done2 =>
   rintro D2 W3 hD2 ⟨⟨h1, h2, h4⟩, h5, h6, h7, h8, h9⟩ hK2
   have h4' : Boxed W3 (w.heap.size + 1 + 1 + 1) 69 (.int .u32 ((toN (nf x).1.labs bh l : Nat) : Int)) := h4
   have c8 := h4'.cell
   have R := Lib.hid (And.intro h6 (And.intro h9 hK2))
   clear h1 h2 h4 h4' h5 h6 h7 h8 h9 hK2
   go_wp2_with fail
   rw [Exit.noGoto_ret]
   refine ⟨by simp, .inl ⟨_, _, rfl, run_takeDeferred R.out.2.2, ?_⟩⟩
   refine ⟨by simp, .inl ⟨_, _, rfl, run_takeDeferred ((World.putObj_heap_other (show D ≠ D2 by omega)).trans R.out.2.1), ?_⟩⟩
   refine ⟨.int .u32 ((toN (nf x).1.labs bh l : Nat) : Int), by simp [results, Tryd.results57, go_sem], by rw [HSTEP.out], belowK w (belowK w R.out.1 (by omega)) (by omega)⟩
end Go.Proofs.YtnccgaanfjaimaaDoor

namespace Go.Proofs.YtnccgaanfjaimaaDoor
open Go.ChangeShapes Go.WideShapes Go.ChangeAt Go.RowKit Go.Maps
set_option linter.unusedVariables false
set_option linter.unusedSimpArgs false

/-- the slice v holds just the numbers of l -/
def IR (w : World) (v : Value) (l : List Int) : Prop :=
 ∃ A c, v = .slice A l.length c ∧ (0 < l.length → ∃ ad, A = some ad ∧ ad.block < w.heap.size ∧ ∀ k (h : k < l.length), w.cell? (ad.add k) = some (.int .i64 l[k]))

theorem IR.of_own {w : World} {base n : Nat} {v : Value} {l : List Int} (h : w.ownsRow base 3 1 v n (l.map (Value.int .i64))) : IR w v l := by
 have hn : n = l.length := by have := h.1; simp at this; omega
 subst hn
 rcases h.2 with ⟨rfl, hx⟩ | ⟨g, cap, cur, rfl, _, hh, _⟩
 ·have : l = [] := List.eq_nil_of_length_eq_zero hx
  subst this
  exact ⟨none, 0, rfl, fun h => absurd h (by simp)⟩
 ·refine ⟨_, cap, rfl, fun _ => ⟨_, rfl, (Array.getElem?_eq_some_iff.1 hh).1, fun k hk => ?_⟩⟩
  exact h.cells (g := g) rfl k _ (by simp [hk])

theorem take_stepG {α : Type} {l1 l2 : List α} {k : Nat} (h : l1.take k = l2.take k) (h1 : k < l1.length) (h2 : k < l2.length) (he : l1[k] = l2[k]) : l1.take (k + 1) = l2.take (k + 1) := by
 rw [List.take_succ_eq_append_getElem h1, List.take_succ_eq_append_getElem h2, h, he]

theorem sameI_nil (A B : Option Addr) (c d : Nat) (w : World) :
  Calls Tryd.prog 20 #[.slice A 0 c, .slice B 0 d] w fun e w' => e = .returned (.bool true) ∧ Below w.heap.size w w' := by
 go_enter Tryd.func20, Tryd.ntmps20
 go_wp2
 go_rounds 1
 go_ret
 exact ⟨rfl, by go_grown⟩

theorem sameI_ne (A B : Option Addr) (m n c d : Nat) (w : World) (h : m ≠ n) :
  Calls Tryd.prog 20 #[.slice A m c, .slice B n d] w fun e w' => e = .returned (.bool false) ∧ Below w.heap.size w w' := by
 have h1 : ((m : Int) != n) = true := by rw [bne_iff_ne]; omega
 go_enter Tryd.func20, Tryd.ntmps20
 go_wp2
 go_ret
 exact ⟨rfl, by go_grown⟩

theorem sameI_cells (a1 a2 : Addr) (c d : Nat) (l1 l2 : List Int) (w : World) (hl : l1.length = l2.length) (hn : l1.length ≤ 1000000) (b1 : a1.block < w.heap.size) (b2 : a2.block < w.heap.size)
  (h1 : ∀ k (h : k < l1.length), w.cell? (a1.add k) = some (.int .i64 l1[k])) (h2 : ∀ k (h : k < l2.length), w.cell? (a2.add k) = some (.int .i64 l2[k])) :
  Calls Tryd.prog 20 #[.slice (some a1) l1.length c, .slice (some a2) l1.length d] w fun e w' => e = .returned (.bool (decide (l1 = l2))) ∧ Below w.heap.size w w' := by
 have H1 := Lib.hid h1
 have H2 := Lib.hid h2
 have HL := Lib.hid hl
 clear h1 h2 hl
 obtain ⟨n, hN⟩ : ∃ n, l1.length = n := ⟨_, rfl⟩
 have HN := Lib.hid hN
 rw [hN] at hn ⊢
 clear hN
 go_enter Tryd.func20, Tryd.ntmps20
 go_wp2
 go_loopw [5] (fun i wr => ∃ k : Nat, k ≤ n ∧ i = .int .i64 k ∧ l1.take k = l2.take k ∧ Below w.heap.size w wr) (fun i _ => n - (intOf i).toNat)
 case atStart => exact ⟨0, Nat.zero_le _, rfl, by simp, Below.refl _ _⟩
 case round =>
  obtain ⟨k, hk, rfl, ht, hb⟩ := hrel
  have HT := Lib.hid ht
  clear ht
  by_cases hlt : k < n
  ·have e1 : k < l1.length := by have := HN.out; omega
   have e2 : k < l2.length := by have := HN.out; have := HL.out; omega
   have g1c := (hb.cell (p := a1.add k) (by rw [block_add]; exact b1)).trans (H1.out k e1)
   have g2c := (hb.cell (p := a2.add k) (by rw [block_add]; exact b2)).trans (H2.out k e2)
   obtain ⟨x, hx⟩ : ∃ x, l1[k] = x := ⟨_, rfl⟩
   obtain ⟨y, hy⟩ : ∃ y, l2[k] = y := ⟨_, rfl⟩
   rw [hx] at g1c
   rw [hy] at g2c
   have HX := Lib.hid hx
   have HY := Lib.hid hy
   clear hx hy
   by_cases hxy : x = y
   ·subst hxy
    go_wp2
    go_region
    go_wp2
    go_roundw
    case rel => exact ⟨k + 1, by omega, by go_num, take_stepG HT.out e1 e2 (HX.out.trans HY.out.symm), hb.trans (by go_grown)⟩
    case measure => simp [intOf]; omega
   ·have hb1 : (x != y) = true := by simpa using hxy
    have H3 := Lib.hid hxy
    clear hxy
    go_wp2
    go_region
    go_wp2
    go_ret
    exact ⟨ret_bool (by symm; rw [decide_eq_false_iff_not]; rintro rfl; exact H3.out (HX.out.symm.trans HY.out)), hb.trans (by go_grown)⟩
  ·have : k = n := by omega
   subst this
   go_wp2
   go_ret
   exact ⟨ret_bool (by symm; rw [decide_eq_true_iff]; have h1 := HT.out; rw [List.take_of_length_le (by have := HN.out; omega), List.take_of_length_le (by have := HN.out; have := HL.out; omega)] at h1; exact h1), hb⟩

theorem sameI_any (v1 v2 : Value) (l1 l2 : List Int) (w : World) (h1 : IR w v1 l1) (h2 : IR w v2 l2) (hn : l1.length ≤ 1000000) :
  Calls Tryd.prog 20 #[v1, v2] w fun e w' => e = .returned (.bool (decide (l1 = l2))) ∧ Below w.heap.size w w' := by
 obtain ⟨A, c, rfl, h1⟩ := h1
 obtain ⟨B, d, rfl, h2⟩ := h2
 by_cases hl : l1.length = l2.length
 ·rcases Nat.eq_zero_or_pos l1.length with h0 | h0
  ·have e1 : l1 = [] := List.eq_nil_of_length_eq_zero h0
   have e2 : l2 = [] := List.eq_nil_of_length_eq_zero (by omega)
   subst e1 e2
   exact sameI_nil A B c d w
  ·obtain ⟨a1, rfl, b1, c1⟩ := h1 h0
   obtain ⟨a2, rfl, b2, c2⟩ := h2 (by omega)
   rw [← hl]
   exact sameI_cells a1 a2 c d l1 l2 w hl hn b1 b2 c1 c2
 ·rw [decide_eq_false (fun h => hl (by rw [h]))]
  exact sameI_ne A B _ _ c d w hl
end Go.Proofs.YtnccgaanfjaimaaDoor

namespace Go.Proofs.YtnccgaanfjaimaaDoor
open Go.ChangeShapes Go.WideShapes Go.ChangeAt Go.RowKit
set_option linter.unusedVariables false
set_option linter.unusedSimpArgs false

theorem IR.bel {w w' : World} {v : Value} {l : List Int} (h : IR w v l) (hb : Below w.heap.size w w') : IR w' v l := by
 obtain ⟨A, c, rfl, h⟩ := h
 refine ⟨A, c, rfl, fun h0 => ?_⟩
 obtain ⟨ad, rfl, h1, h2⟩ := h h0
 refine ⟨ad, rfl, Nat.lt_of_lt_of_le h1 hb.size, fun k hk => ?_⟩
 rw [← h2 k hk]
 exact World.cell?_of_block (a := ad.add k) (by rw [block_add]; exact hb.block _ h1)
/-- is it a place? -/
def okP (x : X) (p : Int) : Bool := decide (p = 0 ∨ (0 < p ∧ p ≤ x.pn))
/-- the places among some numbers -/
def knN (x : X) (l : List Int) : Nat := orL ((l.filter (okP x)).map fun p => 2 ^ p.toNat)
theorem knN_snoc (x : X) (l : List Int) (p : Int) : knN x (l ++ [p]) = if okP x p = true then knN x l ||| 2 ^ p.toNat else knN x l := by
 unfold knN
 rw [List.filter_append, List.filter_cons, List.filter_nil]
 split
 ·rw [List.map_append, List.map_singleton, orL_snoc]
 ·rw [List.append_nil]
theorem knN_lt (x : X) (l : List Int) : knN x l < 2 ^ (1 + x.pn) := orL_lt fun s hs => by
 obtain ⟨p, hp, rfl⟩ := List.mem_map.1 hs
 have := (List.mem_filter.1 hp).2
 unfold okP at this
 rw [decide_eq_true_eq] at this
 exact Nat.pow_lt_pow_right (by decide) (by omega)

set_option maxRecDepth 100000 in
set_option maxHeartbeats 4000000 in
theorem step27_any {w : World} {B N : Nat} {x : X} (h : NfX w B N x) (hT : Tb w) (hs : x.pn ≤ 24) {v : Value} {l : List Int} (hv : IR w v l) (hlen : l.length ≤ 1000000) (s : ByteArray) :
  Calls Tryd.prog 27 #[.pointer (some ⟨N, 0, none⟩), v, .string s] w (ListQ (els (stepN (nf x).1.labs (nfF x) (knN x l) s)) w) := by
 obtain ⟨A, c, rfl, hcell⟩ := hv
 obtain ⟨n, hn⟩ : ∃ n, l.length = n := ⟨_, rfl⟩
 have HN := Lib.hid hn
 rw [hn] at hlen ⊢
 have HM := Lib.hid (made_any h)
 have HX := Lib.hid h
 have HT := Lib.hid hT
 have HC := Lib.hid hcell
 unfold ListQ
 clear hn h hT hcell
 go_enter Tryd.func27, Tryd.ntmps27
 go_wp2_with (go_at_call 52; refine HM.out.mono ?_; rintro e w1 ⟨rfl, rfl⟩)
 go_loopw [7, 15] (fun u i wr => ∃ k : Nat, k ≤ n ∧ i = .int .i64 k ∧ u = .int .u32 ((knN x (l.take k) : Nat) : Int) ∧ wr = w) (fun _ i _ => n - (intOf i).toNat)
 case atStart => exact ⟨0, Nat.zero_le _, rfl, rfl, rfl⟩
 case round =>
  obtain ⟨k, hk, rfl, rfl, rfl⟩ := hrel
  by_cases hlt : k < n
  ·have e1 : k < l.length := by have := HN.out; omega
   obtain ⟨ad, rfl, -, hc⟩ := HC.out (by have := HN.out; omega)
   have q := hc k e1
   have HHAS := Lib.hid (has_any HX.out (by omega) l[k])
   have hkn : knN x (l.take (k + 1)) = if okP x l[k] = true then knN x (l.take k) ||| 2 ^ l[k].toNat else knN x (l.take k) := by rw [List.take_succ_eq_append_getElem e1, knN_snoc]
   have hK := knN_lt x (l.take k)
   have hK25 : knN x (l.take k) < 2 ^ 25 := Nat.lt_of_lt_of_le hK (pow25 hs)
   have hok : okP x l[k] = decide (l[k] = 0 ∨ (0 < l[k] ∧ l[k] ≤ x.pn)) := rfl
   generalize l[k] = p at *
   by_cases hp0 : p = 0
   ·subst hp0
    rw [hok, decide_eq_true (.inl rfl), if_pos rfl] at hkn
    have hor := u32_or (knN x (l.take k)) (2 ^ (0 : Int).toNat) (by omega) (by decide)
    rw [← hkn] at hor
    have HONLY := Lib.hid (fun W => show Calls Tryd.prog 45 #[.int .i64 (0 : Int)] W fun e w' => e = .returned (.int .u32 ((2 ^ (0 : Int).toNat : Nat) : Int)) ∧ W = w' from only_any 0 (by decide) W)
    generalize ((2 ^ (0 : Int).toNat : Nat) : Int) = pw at *
    generalize ((knN x (l.take k) : Nat) : Int) = KK at *
    have HQ := Lib.hid hkn
    clear hkn hK hK25 hok hc
    go_wp2_with (first | (go_at_call 55; refine HHAS.out.mono ?_; rintro e w1 ⟨rfl, rfl⟩) | (go_at_call 45; refine (HONLY.out _).mono ?_; rintro e w1 ⟨rfl, rfl⟩))
    go_roundw
    case rel => exact ⟨k + 1, by omega, by go_num, rfl, trivial⟩
    case measure => simp [intOf]; omega
   ·by_cases hp1 : 0 < p ∧ p ≤ x.pn
    ·obtain ⟨j, rfl⟩ : ∃ j : Nat, p = j := ⟨p.toNat, by omega⟩
     rw [hok, decide_eq_true (.inr hp1), if_pos rfl, Int.toNat_natCast] at hkn
     rw [decide_eq_true hp1] at HHAS
     have hj32 : j < 32 := by omega
     have hor := u32_or (knN x (l.take k)) (2 ^ j) (by omega) (Nat.pow_lt_pow_right (by decide : 1 < 2) hj32)
     rw [← hkn] at hor
     have HONLY := Lib.hid (fun W => only_any j hj32 W)
     generalize ((2 ^ j : Nat) : Int) = pw at *
     generalize ((knN x (l.take k) : Nat) : Int) = KK at *
     clear hkn hK hK25 hok hc hp1
     go_wp2_with (first | (go_at_call 55; refine HHAS.out.mono ?_; rintro e w1 ⟨rfl, rfl⟩) | (go_at_call 45; refine (HONLY.out _).mono ?_; rintro e w1 ⟨rfl, rfl⟩))
     go_roundw
     case rel => exact ⟨k + 1, by omega, by go_num, rfl, trivial⟩
     case measure => simp [intOf]; omega
    ·rw [hok, decide_eq_false (by omega), if_neg (by simp)] at hkn
     rw [decide_eq_false hp1] at HHAS
     have HQ := Lib.hid hkn
     clear hkn hK hK25 hok hc hp1
     go_wp2_with (first | (go_at_call 55; refine HHAS.out.mono ?_; rintro e w1 ⟨rfl, rfl⟩))
     go_roundw
     case rel => exact ⟨k + 1, by omega, by go_num, by rw [HQ.out], trivial⟩
     case measure => simp [intOf]; omega
  ·have hkn : k = n := by omega
   have htk : l.take k = l := List.take_of_length_le (by have := HN.out; omega)
   rw [htk]
   have HST := Lib.hid (step57_any HX.out HT.out hs (knN_lt x l) s)
   have hS32 : stepN (nf x).1.labs (nfF x) (knN x l) s < 2 ^ 32 := Nat.lt_of_lt_of_le (stepN_lt _ (nf_bd x).1 _ _) (Nat.pow_le_pow_right (by decide) (by omega))
   obtain ⟨S, hSe⟩ : ∃ y, stepN (nf x).1.labs (nfF x) (knN x l) s = y := ⟨_, rfl⟩
   have HSE := Lib.hid hSe
   rw [hSe] at HST hS32
   clear hSe
   clear htk hkn
   go_wp2_with (first | (go_at_call 57; refine HST.out.mono ?_; rintro e w1 ⟨rfl, hb⟩; have HB1 := Lib.hid hb; have HL := Lib.hid (list_any S (HT.out.below hb HT.out.pos) hS32); unfold ListR at HL; clear hb) | (go_at_call 53; refine HL.out.mono ?_; rintro e w2 ⟨v, rfl, hr, hb⟩; have HR := Lib.hid (And.intro hr hb); clear hr hb))
   go_ret
   have e := HSE.out
   subst e
   exact ⟨_, rfl, own_low HR.out.1 HB1.out.size, HB1.out.trans (HR.out.2.mono HB1.out.size)⟩

set_option maxRecDepth 100000 in
set_option maxHeartbeats 4000000 in
theorem takes29_any {w : World} {B N M : Nat} {x : X} (h : NfX w B N x) (hT : Tb w) (hs : x.pn ≤ 24) {v : Value} {u : Wd} (hv : SR M w v u) (hM : M ≤ w.heap.size) (hlen : u.length ≤ 1000000) :
  Calls Tryd.prog 29 #[.pointer (some ⟨N, 0, none⟩), v] w fun e w' => e = .returned (.bool (takesN x u)) ∧ Below w.heap.size w w' := by
 obtain ⟨A, c, rfl, hcell⟩ := hv
 obtain ⟨n, hn⟩ : ∃ n, u.length = n := ⟨_, rfl⟩
 have HN := Lib.hid hn
 rw [hn] at hlen ⊢
 have HMD := Lib.hid (made_any h)
 have HX := Lib.hid h
 have HT := Lib.hid hT
 have HC := Lib.hid hcell
 by_cases h0 : n = 0
 ·subst h0
  have e : takesN x u = x.emp := by unfold takesN; rw [if_pos (List.eq_nil_of_length_eq_zero hn)]
  rw [e]
  obtain ⟨ad, c', k0, k1, k2, k3, k4, k5, -⟩ := h.facts
  clear hn h hT hcell k2 k5 e
  go_enter Tryd.func29, Tryd.ntmps29
  go_wp2_with (go_at_call 52; refine HMD.out.mono ?_; rintro e w1 ⟨rfl, rfl⟩)
  go_ret
  exact ⟨rfl, Below.refl _ _⟩
 ·have hn0 : (n : Int) ≠ 0 := by omega
  have HONLY := Lib.hid (fun W => show Calls Tryd.prog 45 #[.int .i64 (0 : Int)] W fun e w' => e = .returned (.int .u32 (1 : Int)) ∧ W = w' from only_any 0 (by decide) W)
  have hstep : ∀ k, stepsN (nf x).1.labs (nfF x) 1 (u.take k) < 2 ^ (1 + x.pn) := fun k => stepsN_lt _ (nf_bd x).1 _ _ (Nat.one_lt_two_pow (by omega))
  have HSTP := Lib.hid hstep
  clear hn h hT hcell hstep
  go_enter Tryd.func29, Tryd.ntmps29
  go_wp2_with (first | (go_at_call 52; refine HMD.out.mono ?_; rintro e w1 ⟨rfl, rfl⟩) | (go_at_call 45; refine (HONLY.out _).mono ?_; rintro e w1 ⟨rfl, rfl⟩))
  go_loopw [5, 21] (fun r i wr => ∃ k : Nat, k ≤ n ∧ i = .int .i64 k ∧ r = .int .u32 ((stepsN (nf x).1.labs (nfF x) 1 (u.take k) : Nat) : Int) ∧ Below w.heap.size w wr) (fun _ i _ => n - (intOf i).toNat)
  case atStart => exact ⟨0, Nat.zero_le _, rfl, rfl, Below.refl _ _⟩
  case round =>
   obtain ⟨k, hk, rfl, rfl, hb⟩ := hrel
   have HB := Lib.hid hb
   by_cases hlt : k < n
   ·have e1 : k < u.length := by have := HN.out; omega
    obtain ⟨ad, rfl, hbl, hc⟩ := HC.out (by have := HN.out; omega)
    have q : wr.cell? (ad.add k) = some (.string u[k]) := (World.cell?_of_block (a := ad.add k) (by rw [block_add]; exact hb.block _ (Nat.lt_of_lt_of_le hbl hM))).trans (hc k e1)
    have hsn : stepsN (nf x).1.labs (nfF x) 1 (u.take (k + 1)) = stepN (nf x).1.labs (nfF x) (stepsN (nf x).1.labs (nfF x) 1 (u.take k)) u[k] := by rw [List.take_succ_eq_append_getElem e1, stepsN_snoc]
    have HST := Lib.hid (step57_any (HX.out.bel hb) (HT.out.below hb HT.out.pos) hs (HSTP.out k) u[k])
    rw [← hsn] at HST
    clear hsn hc hb
    go_wp2_with (go_at_call 57; refine HST.out.mono ?_; rintro e w2 ⟨rfl, hb2⟩; have HB2 := Lib.hid (HB.out.trans (hb2.mono HB.out.size)); clear hb2)
    go_roundw
    case rel => exact ⟨k + 1, by omega, by go_num, rfl, HB2.out⟩
    case measure => simp [intOf]; omega
   ·have hkn : k = n := by omega
    have htk : u.take k = u := List.take_of_length_le (by have := HN.out; omega)
    have hS := HSTP.out k
    rw [htk] at hS ⊢
    obtain ⟨ad, c', k0, k1, k2, k3, k4, k5, -⟩ := (HX.out.bel hb).facts
    have hand := bits_and_u32_nat (stepsN (nf x).1.labs (nfF x) 1 u) (nfL x) (Nat.lt_of_lt_of_le hS (Nat.pow_le_pow_right (by decide) (by omega) : (2 : Nat) ^ _ ≤ 2 ^ 32)) (Nat.lt_of_lt_of_le (nf_bd x).2 (Nat.pow_le_pow_right (by decide) (by omega) : (2 : Nat) ^ _ ≤ 2 ^ 32))
    have e : takesN x u = decide (stepsN (nf x).1.labs (nfF x) 1 u &&& nfL x ≠ 0) := by unfold takesN; rw [if_neg (by rintro rfl; have := HN.out; simp at this; omega)]
    have HE := Lib.hid e
    generalize stepsN (nf x).1.labs (nfF x) 1 u = S at *
    generalize nfL x = L at *
    clear k2 k5 hb htk hkn hS e
    go_wp2_with fail
    go_ret
    exact ⟨by rw [HE.out]; exact ret_bool (by by_cases h : S &&& L = 0 <;> simp [h]), HB.out⟩
end Go.Proofs.YtnccgaanfjaimaaDoor
