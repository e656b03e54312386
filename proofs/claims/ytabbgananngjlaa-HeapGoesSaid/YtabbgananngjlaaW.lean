/- Walk of HeapGoes. -/
import Derived.Test.YtabbgananngjlaaV
import Derived.Test.YtabbgananngjlaaS
import Derived.Deep.RegionWith
namespace Go.Proofs.Ytabbgananngjlaa
open Go.ChangeShapes Go.WideShapes Go.ChangeAt Go.RowKit Go.Shelf
set_option linter.unusedVariables false

attribute [local go_sem] Oper.semAt_some

/-- the frame of HeapGoes where a round begins -/
def frg (w : World) (A : Option Addr) (n c : Nat) (key : Int) (more : It) (X7 X9 b b2 : Nat) (s13 s33 : Value) : Act :=
  { tmps := #[.slice A n c, .int .i64 key, .agg #[.int .i64 more.1, .int .i64 more.2], .pointer (some ⟨w.heap.size, 0, none⟩), .pointer (some ⟨w.heap.size + 1, 0, none⟩), .pointer (some ⟨w.heap.size + 1 + 1, 0, none⟩), .pointer (some ⟨w.heap.size + 1 + 1 + 1, 0, none⟩), .pointer (some ⟨X7, 0, none⟩), .pointer (some ⟨b2, 0, none⟩), .pointer (some ⟨X9, 0, none⟩), .pointer (some ⟨X9 + 1, 0, none⟩), .pointer (some ⟨X9 + 1 + 1, 0, none⟩), (.func (.func 38) #[] #[.pointer (some ⟨X9 + 1 + 1 + 1, 0, none⟩), .pointer (some ⟨X9 + 1 + 1 + 1 + 1, 0, none⟩)]), s13, undef, undef, undef, .bool true, .bool false, .slice A n c, .int .i64 n, .bool (decide (600 < (n : Int))), .slice A n c, .pointer (some ⟨b, 0, none⟩), .pointer (some ⟨b, 0, none⟩), .pointer (some ⟨b2, 0, none⟩), .agg #[.int .i64 0, .int .i64 0], .pointer (some ⟨b, 0, none⟩), .int .i64 key, (.func (.func 38) #[] #[.pointer (some ⟨X9 + 1 + 1 + 1, 0, none⟩), .pointer (some ⟨X9 + 1 + 1 + 1 + 1, 0, none⟩)]), (.func (.func 38) #[] #[.pointer (some ⟨X9 + 1 + 1 + 1, 0, none⟩), .pointer (some ⟨X9 + 1 + 1 + 1 + 1, 0, none⟩)]), .bool false, (.func (.func 38) #[] #[.pointer (some ⟨X9 + 1 + 1 + 1, 0, none⟩), .pointer (some ⟨X9 + 1 + 1 + 1 + 1, 0, none⟩)]), s33, undef, undef, undef, undef, undef, undef, undef, undef, undef, undef, undef, undef, undef, undef, undef, undef, undef, undef, undef, undef, undef, undef, undef, undef, undef, undef, undef, undef, undef, undef, undef, undef, undef, undef, undef, undef, undef, undef, undef, undef, undef, undef, undef, undef, undef, undef, undef, undef, undef, undef, undef, undef, undef, undef, undef, undef, undef, undef, undef, undef, undef, undef, undef, undef, undef, undef, undef, undef, undef, undef, undef, undef, undef, undef, undef, undef, undef, undef, undef, undef, undef, undef, undef, undef, undef], defers := [] }

/-- the end: the result is read behind the deferred calls' block -/
theorem goes_end {w wr : World} {D : Nat} {tmps : Array Value} (hf : Below w.heap.size w wr) (h3 : Boxed wr (w.heap.size + 1 + 1 + 1) 4 (.bool false)) (hK : wr.heap[D]? = some (.deferred (some []))) (hD : w.heap.size ≤ D)
    {s6 : tmps[6]? = some (.pointer (some ⟨w.heap.size + 1 + 1 + 1, 0, none⟩))} :
    bodyPostM Fence.wide 9 Try.prog Try.f6 (Tr w) Exit.ret { tmps := tmps, defers := [{ target := .collected D, args := #[] }] } (wr.drew.setCell ⟨w.heap.size + 1 + 1 + 1, 0, none⟩ (.bool true)) := by
  have hK' := (KeepsOthers.setCell wr.drew ⟨w.heap.size + 1 + 1 + 1, 0, none⟩ (.bool true)).same D _ hK rfl
  have hb : Boxed wr.drew (w.heap.size + 1 + 1 + 1) 4 (.bool false) := h3
  have hc5 := cell_kept (hb.set (.bool true)).cell (grownBy_putObj' _ D (.deferred none)) (fun r e => by cases e; exact ⟨_, hK', rfl⟩)
  refine ⟨by simp, .inl ⟨_, _, rfl, run_takeDeferred hK', ?_⟩⟩
  refine ⟨.bool true, ?_, rfl, ?_⟩
  · generalize (wr.drew.setCell ⟨w.heap.size + 1 + 1 + 1, 0, none⟩ (.bool true)).putObj D (.deferred none) = WW at *
    simp [results, Try.f6, go_sem, hc5, s6]
  · exact (hf.drew.setCell (p := ⟨w.heap.size + 1 + 1 + 1, 0, none⟩) (by simp only []; omega) _).grown (grownBy_putObj' _ D (.deferred none)) (by simp only [World.size_setCell]; exact hf.size) (fun k e => by cases e; exact hD)

set_option maxRecDepth 100000 in
set_option maxHeartbeats 2000000 in
theorem goes_short {w : World} {v : Value} {l : List It} (h : PR w v l) (hlt : 0 < l.length → ∀ g, v.ownBlock = some g → g < w.heap.size) (key : Int) (more : It) (hl : l.length ≤ 600) : Calls Try.prog 6 #[v, .int .i64 key, .agg #[.int .i64 more.1, .int .i64 more.2]] w (Tr w) := by
  have H := Lib.hid h
  obtain ⟨A, c, hv, _⟩ := h
  obtain ⟨n, hn⟩ : ∃ n, l.length = n := ⟨_, rfl⟩
  rw [hn] at hl hv
  subst hv
  have HN := Lib.hid hn
  have HLT := Lib.hid hlt
  clear hn hlt
  have hl' : (n : Int) ≤ 600 := by omega
  refine (callsIn_wide (n := 9)).1 ?_
  refine callsIn_of_wp_marks Try.func6 rfl trivial ?_ rfl
  simp only [Try.ntmps6, List.size_toArray, List.length_cons, List.length_nil, Nat.reduceAdd, Nat.reduceSub, Array.replicate_succ, Array.replicate_zero, List.push_toArray, List.append_toArray, List.nil_append, List.cons_append]
  refine wpIn_wide.2 ?_
  go_wp2_with fail
  obtain ⟨hcs, hbs⟩ := cst_start H.out HLT.out key more
  have HCS := Lib.hid hcs
  have HBS := Lib.hid hbs
  clear hcs hbs
  generalize ((((w.alloc (.cells #[.slice A n c] 22)).alloc (.cells #[.int .i64 key] 3)).alloc (.cells #[.int .i64 more.1, .int .i64 more.2] 40)).alloc (.cells #[.bool false] 4)) = W0 at *
  refine (awake_any _).mono ?_
  rintro e wa ⟨rfl, hba⟩
  have hcsa := HCS.out.below hba
  have hbsa := HBS.out.trans (hba.mono HBS.out.size)
  have c0 := hcsa.c0.cell
  have HCSA := Lib.hid hcsa
  have HBSA := Lib.hid hbsa
  clear hcsa hbsa hba HCS HBS
  go_wp2_with fail
  clear c0
  refine (new_any HCSA.out.pr (by have := HN.out; omega)).mono ?_
  rintro e w1 ⟨b, sv, M1, rfl, hb1, hp1, hh1, hlo1, hro1, hbe1⟩
  have hcs1 := HCSA.out.below hbe1
  have hs1 := HS.of_new hb1 hh1 hlo1 hro1 hbe1
  have HCS1 := Lib.hid hcs1
  have HS1 := Lib.hid hs1
  have HP1 := Lib.hid hp1
  have HBE1 := Lib.hid hbe1
  clear hcs1 hs1 hp1 hbe1 hb1 hh1 hlo1 hro1
  go_wp2_with fail
  have hbx := Boxed.new w1 26 (.pointer (some ⟨b, 0, none⟩))
  have hal : Below w1.heap.size w1 (w1.alloc (.cells #[.pointer (some ⟨b, 0, none⟩)] 26)) := (Below.refl _ w1).alloc (Nat.le_refl _) _
  have hs2 := HS1.out.below hal
  have hcs2 := HCS1.out.below hal
  have hsz2 : (w1.alloc (.cells #[.pointer (some ⟨b, 0, none⟩)] 26)).heap.size = w1.heap.size + 1 := by simp
  have HX7 := Lib.hid hbx
  have HS2 := Lib.hid hs2
  have HCS2 := Lib.hid hcs2
  have HSZ2 := Lib.hid hsz2
  have HAL := Lib.hid hal
  have hcp := copy_any hs2.hb (by have := HP1.out.length_eq; have := HN.out; omega)
  clear hbx hal hs2 hcs2 hsz2
  generalize w1.alloc (.cells #[.pointer (some ⟨b, 0, none⟩)] 26) = w2 at *
  obtain ⟨X7, hX7⟩ : ∃ X7, w1.heap.size = X7 := ⟨_, rfl⟩
  rw [hX7] at HX7 HSZ2 HAL
  rw [hX7]
  have HE7 := Lib.hid hX7
  clear hX7
  refine hcp.mono ?_
  rintro e w3 ⟨b2, sv2, M2, rfl, hb2, hp2, hh2, hlo2, hro2, hbe2⟩
  have hml : M1.length = n := by rw [HP1.out.length_eq, HN.out]
  have hmc : M2.length = n := by rw [hp2.length_eq, hml]
  have hs3 := HS2.out.below hbe2
  have hcs3 := HCS2.out.below hbe2
  have hx7l : X7 < w3.heap.size := by have := hbe2.size; have := HSZ2.out; omega
  have hx7 : Boxed w3 X7 26 (.pointer (some ⟨b, 0, none⟩)) := (hbe2.block X7 (by rw [HSZ2.out]; omega)).trans HX7.out
  have hbig : Below wa.heap.size wa w3 := HBE1.out.trans ((HAL.out.mono (by have := HBE1.out.size; have := HE7.out; omega)).trans (hbe2.mono (by have := HBE1.out.size; have := HE7.out; have := HSZ2.out; omega)))
  have hc2 : Hb w3 b2 sv2 M2 := hb2
  have hb2lo : w2.heap.size ≤ b2 := hlo2
  have hxb : b < X7 := by have := HS1.out.hb.ltb; have := HE7.out; omega
  have hxsv : ∀ g, sv.ownBlock = some g → g < X7 := fun g hg => by have := HS1.out.hb.ltr g hg; have := HE7.out; omega
  obtain ⟨W9, hW9, hgs, hbh, hbk, hbe9, hsz9⟩ := gs_start hs3.hb hs3.hh key (n := n + 1) (by omega)
  have hcs9 := hcs3.below hbe9
  have hs1l : w.heap.size + 1 < w3.heap.size := by have := hcs3.sz; omega
  have c7 := (((hx7.alloc (.cells #[.int .i64 0] 3)).alloc (.cells #[.int .i64 0, .int .i64 0] 40)).alloc (.cells #[.bool false] 4)).cell
  have c1 := (((hcs3.c1.alloc (.cells #[.int .i64 0] 3)).alloc (.cells #[.int .i64 0, .int .i64 0] 40)).alloc (.cells #[.bool false] 4)).cell
  have HGS := Lib.hid hgs
  have HBH := Lib.hid hbh
  have HBK := Lib.hid hbk
  have HCS9 := Lib.hid hcs9
  have HSZ9 := Lib.hid hsz9
  have HBE9 := Lib.hid hbe9
  have HX79 := Lib.hid ((hbe9.block X7 hx7l).trans hx7)
  have HC9 := Lib.hid (hc2.below hbe9)
  have HC2L := Lib.hid hc2.ltb
  have HC2R := Lib.hid hc2.ltr
  have HML := Lib.hid hml
  have HMC := Lib.hid hmc
  have HBIG := Lib.hid (hbig.trans (hbe9.mono hbig.size))
  have HB2LO := Lib.hid hb2lo
  have HRO2 := Lib.hid hro2
  have HXB := Lib.hid hxb
  have HXSV := Lib.hid hxsv
  have HW9 := Lib.hid hW9
  clear hcp hb2 hp2 hh2 hlo2 hro2 hbe2 hml hmc hs3 hcs3 hx7 hbig hc2 hb2lo hxb hxsv hW9 hgs hbh hbk hbe9 hsz9 hcs9
  go_wp2_with fail
  refine (upto_any b key _).mono ?_
  rintro e w9 ⟨rfl, rfl⟩
  rw [HW9.out]
  simp only [World.size_alloc]
  clear c7 c1 hx7l hs1l
  have qf : ∀ (w : World) (ca : Array Value), (binOp .eql 60 (.func (.func 38) #[] ca) .nilFunc).run Try.prog w = .ok (.bool false) w := fun w ca => run_eql_func_nil w 60 _ _ _ _ _ ca Try.underlying60
  obtain ⟨X9, hX9⟩ : ∃ X9, w3.heap.size = X9 := ⟨_, rfl⟩
  rw [hX9] at HGS HBH HBK HSZ9 HBE9 HC2L ⊢
  have HE9 := Lib.hid hX9
  clear hX9
  go_wp2_with fail
  have hX7w : wa.heap.size ≤ X7 := by have := HBE1.out.size; have := HE7.out; omega
  have hX79 : X7 < X9 := by have := HC2L.out; have := HB2LO.out; have := HSZ2.out; omega
  have hwaS : w.heap.size + 1 + 1 + 1 + 1 ≤ wa.heap.size := HCSA.out.sz
  have hblo : wa.heap.size ≤ b := HS1.out.lo
  have hblt : b < X7 := HXB.out
  have hoff : ∀ i, (i < wa.heap.size ∨ X7 ≤ i) → Off b sv i := fun i hi => ⟨by omega, fun e => by have := HS1.out.ro i e; have := HXSV.out i e; omega⟩
  have hcst : ∀ (sv' : Value) (M : List It) (k : Nat) (y : It) (pu : Bool) (W : World), Gs W9 b sv (n + 1) X9 (X9 + 1) (X9 + 1 + 1) sv' M k y pu W → Cst w.heap.size (.slice A n c) key more l false W :=
    fun _ _ _ _ _ _ hg => HCS9.out.keep hg.keep fun i hi => ⟨hoff i (.inl (by omega)), by omega, by omega, by omega⟩
  have hbx : ∀ (sv' : Value) (M : List It) (k : Nat) (y : It) (pu : Bool) (W : World), Gs W9 b sv (n + 1) X9 (X9 + 1) (X9 + 1 + 1) sv' M k y pu W →
      Boxed W (X9 + 1 + 1 + 1) 26 (.pointer (some ⟨b, 0, none⟩)) ∧ Boxed W (X9 + 1 + 1 + 1 + 1) 3 (.int .i64 key) ∧ Boxed W X7 26 (.pointer (some ⟨b, 0, none⟩)) :=
    fun _ _ _ _ _ _ hg => ⟨(hg.keep.block _ HBH.out.lt ⟨hoff _ (.inr (by omega)), by omega, by omega, by omega⟩).trans HBH.out, (hg.keep.block _ HBK.out.lt ⟨hoff _ (.inr (by omega)), by omega, by omega, by omega⟩).trans HBK.out,
      (hg.keep.block _ (Array.getElem?_eq_some_iff.1 HX79.out).1 ⟨hoff _ (.inr (by omega)), by omega, by omega, by omega⟩).trans HX79.out⟩
  have hcc : ∀ (sv' : Value) (M : List It) (k : Nat) (y : It) (pu : Bool) (W : World), Gs W9 b sv (n + 1) X9 (X9 + 1) (X9 + 1 + 1) sv' M k y pu W → Hb W b2 sv2 M2 := by
    intro sv' M k y pu W hg
    refine HC9.out.keep hg.keep fun i hi hk => ?_
    have h1 := HB2LO.out
    have h2 := HSZ2.out
    have h3 := HC2L.out
    have h4 : X7 ≤ i ∧ i < X9 := by
      rcases hk with rfl | hk
      · omega
      · have h5 := HRO2.out i hk
        have h6 := HC2R.out i hk
        rw [HE9.out] at h6
        omega
    exact ⟨hoff i (.inr h4.1), by omega, by omega, by omega⟩
  have HCST := Lib.hid hcst
  have HBX := Lib.hid hbx
  have HCC := Lib.hid hcc
  have HOFF := Lib.hid hoff
  clear hcst hbx hcc hoff hX7w hwaS hblo hblt
  refine wpIn_wide.1 (?_ : Code.wpIn Fence.wide 9 Try.prog _ _ _ _)
  refine wpIn_rangeFunc_dir rfl (by decide) (gf := 38) (lb := #[.pointer (some ⟨X9 + 1 + 1 + 1, 0, none⟩), .pointer (some ⟨X9 + 1 + 1 + 1 + 1, 0, none⟩)]) rfl trivial (enters_of Try.func38 (by kernel_rfl) rfl)
    (encs := fun x : It => #[.agg #[.int .i64 x.1, .int .i64 x.2]])
    (fun m W => ∃ sv' M k y pu, Gs W9 b sv (n + 1) X9 (X9 + 1) (X9 + 1 + 1) sv' M k y pu W ∧ Mid n key l more k y pu M ∧ m + k = n + 2)
    (fun m x W => ∃ sv' M k y pu, Gs W9 b sv (n + 1) X9 (X9 + 1) (X9 + 1 + 1) sv' M k y pu W ∧ ∃ M0, Mid n key l more k y pu M0 ∧ Heap M0 ∧ 0 < M0.length ∧ g M0 0 = x ∧ x.1 ≤ key ∧ M.Perm (cutL M0) ∧ m + k = n + 2)
    (fun W => ∃ sv' M k y pu, Gs W9 b sv (n + 1) X9 (X9 + 1) (X9 + 1 + 1) sv' M k y pu W ∧ Mid n key l more k y pu M ∧ (0 < M.length → key < (g M 0).1))
    (fun c W => False)
    (fun m x a' W => ∃ bx, a' = frg w A n c key more X7 X9 b b2 (.pointer (some ⟨bx, 0, none⟩)) (.agg #[.int .i64 x.1, .int .i64 x.2]) ∧ W9.heap.size ≤ bx ∧ W.heap[bx]? = some (.cells #[.int .i64 x.1, .int .i64 x.2] 40 (0, 0)) ∧
      ∃ sv' M k y pu, Gs W9 b sv (n + 1) X9 (X9 + 1) (X9 + 1 + 1) sv' M k y pu W ∧ Off b sv' bx ∧ ∃ M0, Mid n key l more k y pu M0 ∧ Heap M0 ∧ 0 < M0.length ∧ g M0 0 = x ∧ x.1 ≤ key ∧ M.Perm (cutL M0) ∧ m + k = n + 2)
    (up_seq _ b _ _ key _ _ _ ?hI) (fun _ => rfl) ?aI ?aX ?aD ?aA (n + 2) ?h0 ?assign ?body ?done ?stop
  case hI =>
    rintro m W ⟨sv', M, k, y, pu, hg, hmid, hmk⟩
    obtain ⟨q1, q2, _⟩ := HBX.out _ _ _ _ _ _ hg
    refine ⟨sv', M, q1.cell, q2.cell, hg.hb, boxed_off q2 (by decide) (by have := HXB.out; omega) hg.hb, hg.hh, by have := hg.ml; omega, ?_, ?_⟩
    · intro hx W' hb
      exact ⟨sv', M, k, y, pu, hg.below hb, hmid, hx⟩
    · intro h0 hk W' ht
      obtain ⟨sv5, M5, hg5, hp5⟩ := hg.turn ht (by have := cut_len M; have := hg.ml; omega)
      exact ⟨sv5, M5, k, y, pu, hg5, M, hmid, hg.hh, h0, rfl, hk, hp5, hmk⟩
  case aI =>
    rintro m _ W W' row ⟨sv', M, k, y, pu, hg, hp⟩ hgr hr
    exact ⟨sv', M, k, y, pu, hg.grown hgr hr, hp⟩
  case aX => exact fun c _ W W' row h _ _ => h
  case aD =>
    rintro _ W W' row ⟨sv', M, k, y, pu, hg, hp⟩ hgr hr
    exact ⟨sv', M, k, y, pu, hg.grown hgr hr, hp⟩
  case aA =>
    rintro m x a' _ W W' row ⟨bx, ha, hbx, hc, sv', M, k, y, pu, hg, hp⟩ hgr hr
    refine ⟨bx, ha, hbx, (hgr.block bx (Array.getElem?_eq_some_iff.1 hc).1 ?_).trans hc, sv', M, k, y, pu, hg.grown hgr hr, hp⟩
    intro e
    obtain ⟨_, o, ho, hco⟩ := hr bx e.symm
    rw [hc] at ho
    cases ho
    cases hco
  case h0 => exact ⟨sv, M1, 0, (0, 0), false, HGS.out, .inl ⟨rfl, rfl, HP1.out⟩, rfl⟩
  case assign =>
    rintro l' m x W K ⟨sv', M, k, y, pu, hg, hp⟩ hK
    have HK := Lib.hid hK
    have HG := Lib.hid hg
    clear hK hg
    gi_wp2
    have hbw : Below W.heap.size W (W.alloc (.cells #[.int .i64 x.1, .int .i64 x.2] 40)) := (Below.refl _ W).alloc (Nat.le_refl _) _
    exact HK.out _ _ ((below_others hbw).from _) ⟨W.heap.size, rfl, HG.out.keep.size, heap_alloc_new W _, sv', M, k, y, pu, HG.out.below hbw, HG.out.hb.off (Nat.le_refl _), hp⟩
  case body =>
    rintro l' m x a' W hwl ⟨bx, rfl, hbx9, hxc, sv', M, k, y, pu, hg, hofx, M0, hmid, hh0, hpos, hgx, hxk, hpm, hmk⟩
    have HG := Lib.hid hg
    have HMID := Lib.hid hmid
    have HH0 := Lib.hid hh0
    have HPOS := Lib.hid hpos
    have HGX := Lib.hid hgx
    have HPM := Lib.hid hpm
    have HXC := Lib.hid hxc
    have hcs := HCST.out _ _ _ _ _ _ hg
    obtain ⟨_, _, q7⟩ := HBX.out _ _ _ _ _ _ hg
    have c7 := q7.cell
    have c0 := hcs.c0.cell
    have c1 := hcs.c1.cell
    obtain ⟨m0, m1, _, _⟩ := res_cells hcs.c2
    obtain ⟨x0, x1, _, _⟩ := res_cells hxc
    have c9 := hg.x9.cell
    have f9 := hg.x9.frozen
    obtain ⟨y0, y1, fy0, fy1⟩ := res_cells hg.x10
    have c11 := hg.x11.cell
    have f11 := hg.x11.frozen
    have hbxl : bx < W.heap.size := (Array.getElem?_eq_some_iff.1 hxc).1
    clear hg hmid hh0 hpos hgx hpm hxc hcs q7
    by_cases hk0 : k = 0
    · subst hk0
      unfold frg
      gi_wp2
      refine ⟨trivial, ?_⟩
      gi_wp2
      have hbw : Below W.heap.size W (W.alloc (.cells #[.int .i64 more.1, .int .i64 more.2] 40)) := (Below.refl _ W).alloc (Nat.le_refl _) _
      have hg2 := HG.out.below hbw
      have hml : M.length + 1 ≤ n + 1 := by
        rcases HMID.out with ⟨_, _, h3⟩ | ⟨h3, _⟩
        · have h4 := h3.length_eq; have h5 := HPM.out.length_eq; have h6 := cut_len M0; have := HN.out; omega
        · omega
      have hpush := push_any hg2.hb hg2.hh (pr_new W [more] 1 1 rfl) (fun _ g hg => by cases hg; exact HG.out.hb.off (Nat.le_refl _)) (by simp; omega)
      have hzc : (W.alloc (.cells #[.int .i64 more.1, .int .i64 more.2] 40)).heap[bx]? = some (.cells #[.int .i64 x.1, .int .i64 x.2] 40 (0, 0)) := (hbw.block bx hbxl).trans HXC.out
      have HG2 := Lib.hid hg2
      have HML9 := Lib.hid hml
      have HZC := Lib.hid hzc
      have HBW := Lib.hid hbw
      clear hbw hg2 hml hzc c7 c0 c1 m0 m1 x0 x1 c9 f9 y0 y1 fy0 fy1 c11 f11
      generalize W.alloc (.cells #[.int .i64 more.1, .int .i64 more.2] 40) = W5 at *
      refine ⟨trivial, (CallsIn.inRound l' (callsIn_wide.2 hpush)).mono ?_⟩
      rintro e w6 ⟨rfl, ht⟩
      clear hpush
      obtain ⟨sv6, M6, hg6, hp6⟩ := HG2.out.turn ht (by rw [List.length_append]; exact HML9.out)
      have hko := ht.others HG2.out.hb
      obtain ⟨_, _, _, _, _, _, hk5⟩ := ht
      have hzc6 := (hk5.block bx (Array.getElem?_eq_some_iff.1 HZC.out).1 hofx).trans HZC.out
      obtain ⟨x0, x1, _, _⟩ := res_cells hzc6
      have hsz6 : bx < w6.heap.size := (Array.getElem?_eq_some_iff.1 hzc6).1
      have c9 := hg6.x9.cell
      have f9 := hg6.x9.frozen
      obtain ⟨y0, y1, fy0, fy1⟩ := res_cells hg6.x10
      have c11 := hg6.x11.cell
      have f11 := hg6.x11.frozen
      have hl9 := hg6.x9.lt
      have hl11 := hg6.x11.lt
      have hne1 : bx ≠ X9 := by have := HG2.out.l9; omega
      have hne2 : bx ≠ X9 + 1 := by have := HG2.out.l10; omega
      have hne3 : bx ≠ X9 + 1 + 1 := by have := HG2.out.l11; omega
      have HG6 := Lib.hid hg6
      have HP6 := Lib.hid hp6
      have HKO := Lib.hid hko
      have HB6 := Lib.hid (below_others HBW.out)
      clear hg6 hp6 hko hk5 hzc6
      gi_wp2
      refine ⟨((((((HB6.out.trans HKO.out).trans (KeepsOthers.setCell _ _ _)).trans (KeepsOthers.setCell _ _ _)).trans (KeepsOthers.setCell _ _ _)).trans (KeepsOthers.setCell _ _ _))).from _, m - 1, by omega, sv6, M6, 1, x, true, (((HG6.out.set11 true).set10 x).set9 1 _ rfl), ?_, by omega⟩
      rcases HMID.out with ⟨_, _, h3⟩ | ⟨h3, _⟩
      · exact mid_first HN.out h3 HH0.out HPOS.out (by rw [HGX.out]; exact hxk) HPM.out HP6.out x HGX.out
      · omega
    · obtain ⟨hpu, hkn, hax, hmn⟩ := mid_next HMID.out (by omega) HH0.out HPOS.out (by rw [HGX.out]; exact hxk) HPM.out
      rw [HGX.out] at hax hmn
      subst hpu
      have HMN := Lib.hid hmn
      have hne1 : bx ≠ X9 := by have := HG.out.l9; omega
      have hne2 : bx ≠ X9 + 1 := by have := HG.out.l10; omega
      have hne3 : bx ≠ X9 + 1 + 1 := by have := HG.out.l11; omega
      have hkn1 : ¬ (n : Int) < (k : Int) := by omega
      have hk1 : (0 : Int) < (k : Int) := by omega
      have hk2 : (k : Int) ≠ 0 := by omega
      have E0 := fun W => eq40 W x.1 x.2 more.1 more.2
      clear hmn
      by_cases hle : le y x = true
      · have HLE := Lib.hid hle
        clear hle hax E0
        unfold frg
        gi_wp2
        refine ⟨trivial, (CallsIn.inRound l' (callsIn_wide.2 (lawAhead_any y x _))).mono ?_⟩
        rintro e w6 ⟨rfl, hb6⟩
        rw [HLE.out]
        have hg6 := HG.out.below hb6
        have hzc6 := (hb6.block bx hbxl).trans HXC.out
        have hsz6 : bx < w6.heap.size := Nat.lt_of_lt_of_le hbxl hb6.size
        have hcs6 := HCST.out _ _ _ _ _ _ hg6
        have HB6 := Lib.hid (below_others hb6)
        clear c7 c0 c1 m0 m1 x0 x1 c9 f9 y0 y1 fy0 fy1 c11 f11 hb6
        obtain ⟨m0, m1, _, _⟩ := res_cells hcs6.c2
        obtain ⟨x0, x1, _, _⟩ := res_cells hzc6
        have c9 := hg6.x9.cell
        have f9 := hg6.x9.frozen
        obtain ⟨y0, y1, fy0, fy1⟩ := res_cells hg6.x10
        have c11 := hg6.x11.cell
        have f11 := hg6.x11.frozen
        have hl9 := hg6.x9.lt
        have hl11 := hg6.x11.lt
        have HG6 := Lib.hid hg6
        clear hg6 hzc6 hcs6
        gi_wp2
        refine ⟨((((HB6.out.trans (KeepsOthers.setCell _ _ _)).trans (KeepsOthers.setCell _ _ _)).trans (KeepsOthers.setCell _ _ _))).from _, m - 1, by omega, sv', M, k + 1, x, true, ((HG6.out.set10 x).set9 (k + 1) _ (by go_num)), HMN.out, by omega⟩
      · have hle' : le y x = false := by simpa using hle
        have hxm : x = more := hax.resolve_left hle
        have HLE := Lib.hid hle'
        have e0 : decide ((x.1, x.2) = (more.1, more.2)) = true := decide_eq_true (by rw [hxm])
        simp only [e0] at E0
        clear hle hle' hax hxm e0
        unfold frg
        gi_wp2
        refine ⟨trivial, (CallsIn.inRound l' (callsIn_wide.2 (lawAhead_any y x _))).mono ?_⟩
        rintro e w6 ⟨rfl, hb6⟩
        rw [HLE.out]
        have hg6 := HG.out.below hb6
        have hzc6 := (hb6.block bx hbxl).trans HXC.out
        have hsz6 : bx < w6.heap.size := Nat.lt_of_lt_of_le hbxl hb6.size
        have hcs6 := HCST.out _ _ _ _ _ _ hg6
        have HB6 := Lib.hid (below_others hb6)
        clear c7 c0 c1 m0 m1 x0 x1 c9 f9 y0 y1 fy0 fy1 c11 f11 hb6
        obtain ⟨m0, m1, _, _⟩ := res_cells hcs6.c2
        obtain ⟨x0, x1, _, _⟩ := res_cells hzc6
        have c9 := hg6.x9.cell
        have f9 := hg6.x9.frozen
        obtain ⟨y0, y1, fy0, fy1⟩ := res_cells hg6.x10
        have c11 := hg6.x11.cell
        have f11 := hg6.x11.frozen
        have hl9 := hg6.x9.lt
        have hl11 := hg6.x11.lt
        have HG6 := Lib.hid hg6
        clear hg6 hzc6 hcs6
        gi_wp2
        refine ⟨((((HB6.out.trans (KeepsOthers.setCell _ _ _)).trans (KeepsOthers.setCell _ _ _)).trans (KeepsOthers.setCell _ _ _))).from _, m - 1, by omega, sv', M, k + 1, x, true, ((HG6.out.set10 x).set9 (k + 1) _ (by go_num)), HMN.out, by omega⟩
  case done =>
    rintro D W hD ⟨sv', M, k, y, pu, hg, hmid, hend⟩ hK
    have hcp0 : cp key M = 0 := cp_none hg.hh hend
    have hcs := HCST.out _ _ _ _ _ _ hg
    have HG := Lib.hid hg
    have HMID := Lib.hid hmid
    have HCP0 := Lib.hid hcp0
    have HKD := Lib.hid hK
    have HCS := Lib.hid hcs
    have HDD := Lib.hid hD
    have c0 := hcs.c0.cell
    clear hg hmid hend hK hcs hcp0 hD
    go_wp2_with fail
    clear c0
    go_loopw [14, 15] (fun q i wr => ∃ r : Nat, r ≤ n ∧ i = .int .i64 r ∧ q = .int .i64 (cp key (l.take r)) ∧ Below W.heap.size W wr) (fun _ i _ => n - (intOf i).toNat)
    case atStart => exact ⟨0, Nat.zero_le _, rfl, rfl, Below.refl _ _⟩
    case round =>
      obtain ⟨r, hr, rfl, rfl, hbr⟩ := hrel
      have hcsr := HCS.out.below hbr
      have HBR := Lib.hid hbr
      have c0 := hcsr.c0.cell
      have c1 := hcsr.c1.cell
      by_cases hlr : r < n
      · obtain ⟨ad, e1, hx9, hx8, x1, x2⟩ := PR.at2 hcsr.pr (k := r) (by rw [HN.out]; exact hlr)
        subst e1
        have hcs1 := cp_take_succ (key := key) (L := l) (k := r) (by rw [HN.out]; exact hlr)
        have hcl := cp_le key (l.take r)
        rw [List.length_take] at hcl
        have hcl2 : cp key (l.take r) ≤ 600 := by omega
        obtain ⟨z, hz⟩ : ∃ z, g l r = z := ⟨_, rfl⟩
        rw [hz] at x1 x2 hcs1
        have HCS1 := Lib.hid hcs1
        obtain ⟨cq, hcq⟩ : ∃ cq, cp key (l.take r) = cq := ⟨_, rfl⟩
        rw [hcq] at hcl2 HCS1
        rw [hcq]
        clear hbr hcsr hx9 hx8 hcs1 hcl hz hcq
        by_cases hzk : z.1 ≤ key
        · rw [if_pos hzk] at HCS1
          go_upto_region 25 with (fail)
          go_quiet (fail)
          have hbq : Below W.heap.size W (wr.drewN nq) := HBR.out.trans ⟨rfl, rfl, rfl, Nat.le_refl _, fun _ _ => rfl⟩
          have HBQ := Lib.hid hbq
          clear hbq c0 c1 x1 x2
          generalize wr.drewN nq = WT at *
          go_wp2_with fail
          go_roundw
          case rel => exact ⟨r + 1, by omega, by go_num, by rw [HCS1.out]; go_num, HBQ.out⟩
          case measure => simp [intOf] <;> omega
        · have hd1 : decide (z.1 ≤ key) = false := decide_eq_false hzk
          rw [if_neg hzk] at HCS1
          go_upto_region 25 with (fail)
          go_quiet (fail)
          have hbq : Below W.heap.size W (wr.drewN nq) := HBR.out.trans ⟨rfl, rfl, rfl, Nat.le_refl _, fun _ _ => rfl⟩
          have HBQ := Lib.hid hbq
          clear hbq c0 c1 x1 x2
          generalize wr.drewN nq = WT at *
          go_wp2_with fail
          go_roundw
          case rel => exact ⟨r + 1, by omega, by go_num, by rw [HCS1.out]; go_num, HBQ.out⟩
          case measure => simp [intOf] <;> omega
      · obtain rfl : n = r := by omega
        rw [List.take_of_length_le (by rw [HN.out]; exact Nat.le_refl _)]
        have hgr := HG.out.below hbr
        obtain ⟨_, _, q7⟩ := HBX.out _ _ _ _ _ _ hgr
        have hcl := cp_le key l
        rw [HN.out] at hcl
        obtain ⟨cq, hcq⟩ : ∃ cq, cp key l = cq := ⟨_, rfl⟩
        rw [hcq] at hcl
        rw [hcq]
        have HCQ := Lib.hid hcq
        have c7 := q7.cell
        have c9 := hgr.x9.cell
        have c11 := hgr.x11.cell
        have c3 := hcsr.c3.cell
        have f3 := hcsr.c3.frozen
        obtain ⟨m0, m1, _, _⟩ := res_cells hcsr.c2
        have HGR := Lib.hid hgr
        have HCC2 := Lib.hid (HCC.out _ _ _ _ _ _ hgr)
        have hcl6 : cq ≤ 600 := by omega
        have hsub : IntKind.i64.wrap ((n : Int) - (cq : Int)) = (n : Int) - (cq : Int) := wrap_small _ (by omega) (by omega)
        clear hbr hcsr hgr hcq q7
        have hfin : Below w.heap.size w wr := by
          have h1 : Below w.heap.size w W9 := HBSA.out.trans (HBIG.out.mono HBSA.out.size)
          have h2 : Below w.heap.size W9 W := HG.out.keep.below h1.size fun i hi => ⟨HOFF.out i (.inl (by have := HBSA.out.size; omega)), by have := HE7.out; have := HBE1.out.size; have := HBSA.out.size; omega, by have := HE7.out; have := HBE1.out.size; have := HBSA.out.size; omega, by have := HE7.out; have := HBE1.out.size; have := HBSA.out.size; omega⟩
          exact (h1.trans h2).trans (HBR.out.mono (h1.trans h2).size)
        have hkr : wr.heap[D]? = some (.deferred (some [])) := (HBR.out.block D (Array.getElem?_eq_some_iff.1 HKD.out).1).trans HKD.out
        have hbx3 := (HCS.out.below HBR.out).c3
        have HFIN := Lib.hid hfin
        have HKR := Lib.hid hkr
        have HBX3 := Lib.hid hbx3
        clear hfin hkr hbx3
        rcases HMID.out with ⟨rfl, rfl, h3⟩ | ⟨h2, rfl, h3, h4, _⟩
        · have hcz : cq = 0 := by rw [← HCQ.out, ← cp_perm h3]; exact HCP0.out
          have hmn : (M.length : Int) = (n : Int) := by have := h3.length_eq; have := HN.out; omega
          subst hcz
          have HMNN := Lib.hid hmn
          clear h3 hmn
          have L1 := len_any (HGR.out.hb.below (Below.refl _ wr).drew)
          have L2 := len_any (HCC2.out.below (Below.refl _ wr).drew)
          rw [HMNN.out] at L1
          rw [HMC.out] at L2
          have L3 : Calls Try.prog 25 #[.pointer (some ⟨b, 0, none⟩)] wr.drew fun e w' => e = .returned (.int .i64 ((n : Int))) ∧ w' = wr.drew := L1.mono fun e w' h => ⟨h.1, h.2.symm⟩
          have L4 : Calls Try.prog 25 #[.pointer (some ⟨b2, 0, none⟩)] wr.drew fun e w' => e = .returned (.int .i64 n) ∧ w' = wr.drew := L2.mono fun e w' h => ⟨h.1, h.2.symm⟩
          clear L1 L2
          go_upto_region 32 with (fail)
          go_still_tail 16, (by kernel_rfl)
          still_call L3
          repeat still_step
          still_call L4
          repeat still_step
          try refine wpStill_nil ?_
          change wpList _ _ _ _ _ wr.drew
          have g3 : wr.drew.cell? ⟨w.heap.size + 1 + 1 + 1, 0, none⟩ = some (.bool false) := c3
          have gf3 : wr.drew.frozen? ⟨w.heap.size + 1 + 1 + 1, 0, none⟩ = false := f3
          clear c0 c1 c7 c9 c11 c3 f3 m0 m1 L3 L4
          go_wp2_with fail
          refine goes_end HFIN.out HBX3.out HKR.out (by have := HDD.out; have := HBIG.out.size; have := HBSA.out.size; omega) (s6 := rfl)
        · rw [HCP0.out, cp_cons, HCQ.out] at h4
          by_cases hmk : more.1 ≤ key
          · rw [if_pos hmk] at h4
            have hke : (k : Int) = (cq : Int) + 1 := by omega
            have hmn : (M.length : Int) = (n : Int) - (cq : Int) := by omega
            rw [hke] at c9
            have HMNN := Lib.hid hmn
            clear h2 h3 h4 hke hmn
            have L1 := len_any (HGR.out.hb.below (Below.refl _ wr).drew)
            have L2 := len_any (HCC2.out.below (Below.refl _ wr).drew)
            rw [HMNN.out] at L1
            rw [HMC.out] at L2
            have L3 : Calls Try.prog 25 #[.pointer (some ⟨b, 0, none⟩)] wr.drew fun e w' => e = .returned (.int .i64 ((n : Int) - (cq : Int))) ∧ w' = wr.drew := L1.mono fun e w' h => ⟨h.1, h.2.symm⟩
            have L4 : Calls Try.prog 25 #[.pointer (some ⟨b2, 0, none⟩)] wr.drew fun e w' => e = .returned (.int .i64 n) ∧ w' = wr.drew := L2.mono fun e w' h => ⟨h.1, h.2.symm⟩
            clear L1 L2
            go_upto_region 32 with (fail)
            go_still_tail 16, (by kernel_rfl)
            still_call L3
            repeat still_step
            still_call L4
            repeat still_step
            try refine wpStill_nil ?_
            change wpList _ _ _ _ _ wr.drew
            have g3 : wr.drew.cell? ⟨w.heap.size + 1 + 1 + 1, 0, none⟩ = some (.bool false) := c3
            have gf3 : wr.drew.frozen? ⟨w.heap.size + 1 + 1 + 1, 0, none⟩ = false := f3
            clear c0 c1 c7 c9 c11 c3 f3 m0 m1 L3 L4
            go_wp2_with fail
            refine goes_end HFIN.out HBX3.out HKR.out (by have := HDD.out; have := HBIG.out.size; have := HBSA.out.size; omega) (s6 := rfl)
          · rw [if_neg hmk] at h4
            have hke : (k : Int) = (cq : Int) := by omega
            have hmn : (M.length : Int) = (n : Int) - (cq : Int) + 1 := by omega
            have hd9 : decide (more.1 ≤ key) = false := decide_eq_false hmk
            have hsub2 : IntKind.i64.wrap ((n : Int) - (cq : Int) + 1) = (n : Int) - (cq : Int) + 1 := wrap_small _ (by omega) (by omega)
            rw [hke] at c9
            have HMNN := Lib.hid hmn
            clear h2 h3 h4 hke hmn
            have L1 := len_any (HGR.out.hb.below (Below.refl _ wr).drew)
            have L2 := len_any (HCC2.out.below (Below.refl _ wr).drew)
            rw [HMNN.out] at L1
            rw [HMC.out] at L2
            have L3 : Calls Try.prog 25 #[.pointer (some ⟨b, 0, none⟩)] wr.drew fun e w' => e = .returned (.int .i64 ((n : Int) - (cq : Int) + 1)) ∧ w' = wr.drew := L1.mono fun e w' h => ⟨h.1, h.2.symm⟩
            have L4 : Calls Try.prog 25 #[.pointer (some ⟨b2, 0, none⟩)] wr.drew fun e w' => e = .returned (.int .i64 n) ∧ w' = wr.drew := L2.mono fun e w' h => ⟨h.1, h.2.symm⟩
            clear L1 L2
            go_upto_region 32 with (fail)
            go_still_tail 16, (by kernel_rfl)
            still_call L3
            repeat still_step
            still_call L4
            repeat still_step
            try refine wpStill_nil ?_
            change wpList _ _ _ _ _ wr.drew
            have g3 : wr.drew.cell? ⟨w.heap.size + 1 + 1 + 1, 0, none⟩ = some (.bool false) := c3
            have gf3 : wr.drew.frozen? ⟨w.heap.size + 1 + 1 + 1, 0, none⟩ = false := f3
            clear c0 c1 c7 c9 c11 c3 f3 m0 m1 L3 L4
            go_wp2_with fail
            refine goes_end HFIN.out HBX3.out HKR.out (by have := HDD.out; have := HBIG.out.size; have := HBSA.out.size; omega) (s6 := rfl)
  case stop => exact fun D c W _ h _ => h.elim

theorem goes_long {w : World} {v : Value} {l : List It} (h : PR w v l) (hlt : 0 < l.length → ∀ g, v.ownBlock = some g → g < w.heap.size) (key : Int) (more : It) (hl : 600 < l.length) : Calls Try.prog 6 #[v, .int .i64 key, .agg #[.int .i64 more.1, .int .i64 more.2]] w (Tr w) := by
  have H := Lib.hid h
  have HLT := Lib.hid hlt
  obtain ⟨A, c, rfl, _⟩ := h
  have hl' : (600 : Int) < (l.length : Int) := by omega
  clear hl hlt
  go_enter Try.func6, Try.ntmps6
  go_wp2_with fail
  obtain ⟨hcs, hbs⟩ := cst_start H.out HLT.out key more
  have HCS := Lib.hid hcs
  have HBS := Lib.hid hbs
  clear hcs hbs
  generalize ((((w.alloc (.cells #[.slice A l.length c] 22)).alloc (.cells #[.int .i64 key] 3)).alloc (.cells #[.int .i64 more.1, .int .i64 more.2] 40)).alloc (.cells #[.bool false] 4)) = W0 at *
  refine (awake_any _).mono ?_
  rintro e wa ⟨rfl, hba⟩
  have hcsa := HCS.out.below hba
  have hbsa := HBS.out.trans (hba.mono HBS.out.size)
  have c0 := hcsa.c0.cell
  have c3 := hcsa.c3.cell
  have f3 := hcsa.c3.frozen
  have hx := (hcsa.c3.set (.bool true)).cell
  have HBSA := Lib.hid hbsa
  clear hcsa hbsa hba HCS HBS
  go_wp2_with fail
  refine bodyPost_ret (v := .bool true) (by simp [results, Try.results6, go_sem, hx]) rfl ⟨rfl, ?_⟩
  exact HBSA.out.setCell (by simp only []; omega) _

theorem goes_any {w : World} {v : Value} {l : List It} (h : PR w v l) (hlt : 0 < l.length → ∀ g, v.ownBlock = some g → g < w.heap.size) (key : Int) (more : It) : Calls Try.prog 6 #[v, .int .i64 key, .agg #[.int .i64 more.1, .int .i64 more.2]] w (Tr w) := by
  by_cases hl : l.length ≤ 600
  · exact goes_short h hlt key more hl
  · exact goes_long h hlt key more (by omega)
end Go.Proofs.Ytabbgananngjlaa
