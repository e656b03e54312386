/- Texts ZL, one behind the other. -/
import Derived.Test.YtnccgaanfjaimaaDoorJ2
set_option linter.unusedSimpArgs false
set_option linter.unusedVariables false
namespace Go.Proofs.YtnccgaanfjaimaaDoor
open Go.ChangeShapes Go.WideShapes Go.ChangeAt Go.RowKit Go.Shelf
set_option linter.unusedVariables false
set_option linter.unusedSimpArgs false

attribute [local go_sem] Oper.semAt_some
/-- an iterator's contract, for a consumer that stops in time -/
def SeqB {α : Type} (Bd : List α → Prop) (F : Fence) (n : Nat) (P : Program) (gf : Nat) (lb : Array Value) (encs : α → Array Value) (Kp : World → World → Prop) (xs : List α) (w0 : World) : Prop :=
 ∀ (l : Nat) (J Jx : List α → World → Prop) (W : World), Below w0.heap.size w0 W → OwnQ W.heap.size J → OwnQ W.heap.size Jx → (∀ pre W, J pre W → Bd pre) →
  (∀ pre x W1, pre ++ [x] <+: xs → W.heap.size ≤ W1.heap.size → J pre W1 → YieldAt F (n - 1) P l (encs x) W1 fun e W' => KeepsFrom W.heap.size W1 W' ∧
   ((e = .returned (.bool true) ∧ J (pre ++ [x]) W' ∧ Kp W1 W') ∨ (e = .returned (.bool false) ∧ Jx (pre ++ [x]) W'))) →
  J [] W → CallsIn F n P gf (#[.func (.yield l) #[] #[]] ++ lb) W fun e W' => (∃ v, e = .returned v) ∧ (J xs W' ∨ ∃ pre, pre <+: xs ∧ Jx pre W')


variable {F : Fence} {n : Nat} {P : Program}

theorem wpIn_rangeFunc_B {α : Type} {g : Operand} {ps : Array Tmp} {assign body : Code} {Q : Exit → Act → World → Prop} {a : Act} {w : World}
  (hro : F.round = none) (h1 : 1 ≤ n) {gf : Nat} {lb : Array Value} (hg : a.eval g = .func (.func gf) #[] lb) (hFg : F.fn gf) (eg : ∀ args w, (callFunc gf args).run P w = .ok (.enter gf args) w)
  {encs : α → Array Value} {Kp : World → World → Prop} {xs : List α} {w0 : World} {Bd : List α → Prop} (hseq : SeqB Bd F (n - 1) P gf lb encs Kp xs w0)
  (hKt : ∀ {A B C : World}, Kp A B → Kp B C → Kp A C) (hKb : ∀ (W : World) (l : Nat) (o o' : Obj), w.heap.size ≤ l → W.heap[l]? = some o → o.isCells = false → o.isWalk = false → Kp W (W.putObj l o')) (hb0 : Below w0.heap.size w0 w) (hps : ∀ x, (encs x).size = ps.size)
  (I : List α → World → Prop) (Ix : Code → List α → World → Prop) (hI : OwnQ w.heap.size I) (hIx : ∀ c, OwnQ w.heap.size (Ix c)) (h0 : I [] w) (hIb : ∀ pre W, I pre W → Bd pre) (Ax : α → Act → World → Prop) (hAx : ∀ x a', OwnQ w.heap.size (fun (_ : Unit) W => Ax x a' W))
  (hassign : ∀ (l : Nat) (pre : List α) (x : α) (W : World) (K : Act → World → Prop), I pre W → pre ++ [x] <+: xs → (∀ a' W', KeepsFrom w.heap.size W W' → Kp W W' → I pre W' → Ax x a' W' → K a' W') →
   assign.wpIn (F.inRound l) (n - 1 - 1) P (Exit.then K (fun _ _ _ => False)) { tmps := (ps.zip (encs x)).foldl (fun t (p, v) => t.setIfInBounds p v) a.tmps, defers := [] } W)
  (hbody : ∀ (l : Nat) (pre : List α) (x : α) (a' : Act) (W : World), w.heap.size ≤ l → (∃ r, W.heap[l]? = some (.loop r)) → pre ++ [x] <+: xs → I pre W → Ax x a' W → body.wpIn (F.inRound l) (n - 1 - 1) P (xPost w.heap.size Kp I Ix (pre ++ [x]) W) a' W)
  (hdone : ∀ (D : Nat) (W : World), w.heap.size ≤ D → I xs W → W.heap[D]? = some (.deferred (some [])) → Q .normal { a with defers := { target := .collected D, args := #[] } :: a.defers } W)
  (hstop : ∀ (D : Nat) (c : Code) (pre : List α) (W : World), w.heap.size ≤ D → pre <+: xs → Ix c pre W → W.heap[D]? = some (.deferred (some [])) → c.wpIn F n P Q { a with defers := { target := .collected D, args := #[] } :: a.defers } W) :
  (Code.rangeFunc g ps assign body).wpIn F n P Q a w := by
 refine wpIn_rangeFunc ?_
 intro fn hfn
 rw [hro]
 obtain ⟨rec, hrec⟩ : ∃ rec : LoopState → Option Code → Loop, rec = fun st pe => { state := st, pending := pe, fn, tmps := a.tmps, params := ps, assign, body, defers := w.heap.size } := ⟨_, rfl⟩
 obtain ⟨W1, hW1⟩ : ∃ W1, (w.alloc (.deferred (some []))).alloc (.loop (rec .ready none)) = W1 := ⟨_, rfl⟩
 have hL1 : W1.heap[w.heap.size + 1]? = some (.loop (rec .ready none)) := by
  rw [← hW1]; have := World.alloc_heap_new (w.alloc (.deferred (some []))) (.loop (rec .ready none)); rwa [World.size_alloc] at this
 have hK1 : W1.heap[w.heap.size]? = some (.deferred (some [])) := by
  rw [← hW1]; exact (Below.heap_alloc _ _ _ (by simp)).trans (World.alloc_heap_new w _)
 have hI1 : I [] W1 := by rw [← hW1]; exact hI.alloc _ (hI.alloc _ h0)
 have hs1 : W1.heap.size = w.heap.size + 2 := by rw [← hW1]; simp
 have hb1 : Below w0.heap.size w0 W1 := by
  rw [← hW1]; exact hb0.trans ((((Below.refl _ w).alloc (Nat.le_refl _) _).alloc (by simp) _).mono hb0.size)
 refine ⟨w.heap.size + 1, [{ target := .collected w.heap.size, args := #[] }], W1, { target := .fn (.func gf) lb, args := #[.func (.yield (w.heap.size + 1)) #[] #[]] }, W1, gf,
  #[.func (.yield (w.heap.size + 1)) #[] #[]] ++ lb, W1, ?_, ?_, ?_, ?_, fun _ => h1, ?_⟩
 ·rw [← hW1, hrec]; exact run_enterLoop_outer _ _ _ _ _
 ·simp only [resolve, hg]
  simp [go_sem]
 ·intro f' hf'; simp [Target.leads] at hf'; subst hf'; exact hFg
 ·simp [invoke, go_sem, eg]
 ·refine (hseq (w.heap.size + 1)
   (fun pre W => I pre W ∧ W.heap[w.heap.size + 1]? = some (.loop (rec .ready none)) ∧ W.heap[w.heap.size]? = some (.deferred (some [])))
   (fun pre W => ∃ c, Ix c pre W ∧ W.heap[w.heap.size + 1]? = some (.loop (rec .done (some c))) ∧ W.heap[w.heap.size]? = some (.deferred (some [])))
   W1 hb1 ?_ ?_ (fun pre W h => hIb pre W h.1) ?_ ⟨hI1, hL1, hK1⟩).mono ?_
  ·rintro pre A B ⟨hi, hl, hk⟩ hr
   exact ⟨hI pre A B hi (hr.mono (by omega)), hr.low (by omega) hl, hr.low (by omega) hk⟩
  ·rintro pre A B ⟨c, hi, hl, hk⟩ hr
   exact ⟨c, hIx c pre A B hi (hr.mono (by omega)), hr.low (by omega) hl, hr.low (by omega) hk⟩
  ·rintro pre x W hpx hsz ⟨hi0, hl, hk⟩
   have hlt : w.heap.size + 1 < W.heap.size := (Array.getElem?_eq_some_iff.1 hl).1
   have hy := run_yield (P := P) (args := encs x) hl (by rw [hrec]; exact hps x)
   rw [hrec] at hy
   refine ⟨fn, _, assign, body, hy, roundIn_of_wpIn hfn (hassign _ pre x W _ hi0 hpx ?_)⟩
   clear hy
   intro a' Wa hkfa hkpa hia hax
   have hla := hkfa.same _ _ (by omega) hl rfl
   have hka := hkfa.same _ _ (Nat.le_refl _) hk rfl
   have hlta : w.heap.size + 1 < Wa.heap.size := (Array.getElem?_eq_some_iff.1 hla).1
   refine ⟨_, run_beginRound hla (by rw [hrec]), ?_⟩
   obtain ⟨Wb, hWb⟩ : ∃ Wb, Wa.putObj (w.heap.size + 1) (.loop { rec .ready none with state := .busy }) = Wb := ⟨_, rfl⟩
   have hl2 : Wb.heap[w.heap.size + 1]? = some (.loop { rec .ready none with state := .busy }) := by rw [← hWb]; exact World.putObj_heap_same hlta
   have hk2 : Wb.heap[w.heap.size]? = some (.deferred (some [])) := by rw [← hWb]; exact (World.putObj_heap_other (by omega)).trans hka
   have hib : I pre Wb := by rw [← hWb]; exact hI.putObj _ hia (by omega) hla rfl
   have hab : Ax x a' Wb := by rw [← hWb]; exact (hAx x a').putObj (s := ()) _ hax (by omega) hla rfl
   have hkb : Kp W Wb := hKt hkpa (by rw [← hWb]; exact hKb _ _ _ _ (by omega) hla rfl rfl)
   have hfb : KeepsFrom (w.heap.size + 2) W Wb := (kf_mono hkfa (by omega)).trans (by rw [← hWb]; exact kf_low _ _ _ (by omega))
   rw [hWb]
   refine wpIn_mono (hbody _ pre x a' _ (by omega) ⟨_, hl2⟩ hpx hib hab) ?_
   have fin : ∀ (jump : Option Code) (W3 : World), KeepsFrom w.heap.size Wb W3 →
     (Instr.endRound (w.heap.size + 1) jump).run P W3 = .ok (.bool jump.isNone) (W3.putObj (w.heap.size + 1) (.loop (rec (if jump.isNone then .ready else .done) jump))) ∧
     W3.heap[w.heap.size + 1]? = some (.loop { rec .ready none with state := .busy }) ∧
     (W3.putObj (w.heap.size + 1) (.loop (rec (if jump.isNone then .ready else .done) jump))).heap[w.heap.size + 1]? = some (.loop (rec (if jump.isNone then .ready else .done) jump)) ∧
     (W3.putObj (w.heap.size + 1) (.loop (rec (if jump.isNone then .ready else .done) jump))).heap[w.heap.size]? = some (.deferred (some [])) ∧
     KeepsFrom (w.heap.size + 2) W (W3.putObj (w.heap.size + 1) (.loop (rec (if jump.isNone then .ready else .done) jump))) := fun jump W3 hk3 => by
    have hl3 := hk3.same _ _ (by omega) hl2 rfl
    have := run_endRound (P := P) jump hl3
    rw [hrec] at this ⊢
    exact ⟨this, by rw [hrec] at hl3; exact hl3, World.putObj_heap_same (Array.getElem?_eq_some_iff.1 hl3).1, (World.putObj_heap_other (by omega)).trans (hk3.same _ _ (Nat.le_refl _) hk2 rfl),
     (hfb.trans (kf_mono hk3 (by omega))).trans (kf_low _ _ _ (by omega))⟩
   rw [hs1]
   rintro e a3 W3 hp
   cases e with
   | normal =>
    obtain ⟨hk3, hkp3, hi3⟩ := hp
    obtain ⟨hr, hl3, hl4, hk4, hf4⟩ := fin none W3 hk3
    exact ⟨_, _, hr, hf4, .inl ⟨rfl, ⟨hI.putObj _ hi3 (by omega) hl3 rfl, hl4, hk4⟩, hKt (hKt hkb hkp3) (hKb _ _ _ _ (by omega) hl3 rfl rfl)⟩⟩
   | ret =>
    obtain ⟨hk3, hi3⟩ := hp
    obtain ⟨hr, hl3, hl4, hk4, hf4⟩ := fin (some .ret) W3 hk3
    exact ⟨_, _, hr, hf4, .inr ⟨rfl, .ret, (hIx _).putObj _ hi3 (by omega) hl3 rfl, hl4, hk4⟩⟩
   | exit id =>
    obtain ⟨hk3, hi3⟩ := hp
    obtain ⟨hr, hl3, hl4, hk4, hf4⟩ := fin (some (.exit id)) W3 hk3
    exact ⟨_, _, hr, hf4, .inr ⟨rfl, .exit id, (hIx _).putObj _ hi3 (by omega) hl3 rfl, hl4, hk4⟩⟩
   | goto t =>
    obtain ⟨hk3, hi3⟩ := hp
    obtain ⟨hr, hl3, hl4, hk4, hf4⟩ := fin (some (.goto t)) W3 hk3
    exact ⟨_, _, hr, hf4, .inr ⟨rfl, .goto t, (hIx _).putObj _ hi3 (by omega) hl3 rfl, hl4, hk4⟩⟩
   | panic ch => exact hp.elim
   | outgrown => exact hp.elim
  ·rintro e W2 ⟨⟨v, rfl⟩, (⟨hi, hl, hk⟩ | ⟨pre, hpre, c, hi, hl, hk⟩)⟩
   ·exact ⟨none, _, by have := run_endLoop (P := P) hl (by rw [hrec]; simp); rw [hrec] at this; exact this, hdone _ _ (Nat.le_refl _) (hI.putObj _ hi (by omega) hl rfl) ((World.putObj_heap_other (by omega)).trans hk)⟩
   ·exact ⟨some c, _, by have := run_endLoop (P := P) hl (by rw [hrec]; simp); rw [hrec] at this; exact this, hstop _ c pre _ (Nat.le_refl _) hpre ((hIx c).putObj _ hi (by omega) hl rfl) ((World.putObj_heap_other (by omega)).trans hk)⟩


set_option maxRecDepth 100000 in
set_option maxHeartbeats 8000000 in
theorem pairs_seqB {w0 : World} {N : Nat} (n : Nat) (hn : 2 ≤ n) {a b : T} {Ba Bb : Nat} (hA : w0.heap[Ba]? = some (.cells #[.int .i64 a.kind, .string a.lab, a.kv] 25 (0, 0))) (hB : w0.heap[Bb]? = some (.cells #[.int .i64 b.kind, .string b.lab, b.kv] 25 (0, 0)))
  (ha : TR N w0 a.kv a.kids) (hb : TR N w0 b.kv b.kids) (hN : N ≤ w0.heap.size) :
  SeqB (fun pre => pre.length ≤ 1000) Fence.wide n Tryd.prog 92 #[.pointer (some ⟨Ba, 0, none⟩), .pointer (some ⟨Bb, 0, none⟩)] encZ (KpX N) (zipT a b) w0 := by
 intro l J Jx W hW hJ hJx hBd hY h0
 have HBD := Lib.hid hBd
 clear hBd
 have HY := Lib.hid hY
 have HJ := Lib.hid hJ
 have HA := Lib.hid ((hW.block _ (Array.getElem?_eq_some_iff.1 hA).1).trans hA)
 have HB := Lib.hid ((hW.block _ (Array.getElem?_eq_some_iff.1 hB).1).trans hB)
 have hNW : N ≤ W.heap.size := Nat.le_trans hN hW.size
 have HTa := Lib.hid (ha.bel (hW.mono hN))
 have HTb := Lib.hid (hb.bel (hW.mono hN))
 have HJ0 := Lib.hid h0
 obtain ⟨A1, c1, hka, -⟩ := ha.form
 obtain ⟨A2, c2, hkb, -⟩ := hb.form
 have a0 := cell_of_row _ _ 0 _ 25 (0, 0) HA.out
 have a1 := cell_of_row _ _ 1 _ 25 (0, 0) HA.out
 have a2 := cell_of_row _ _ 2 _ 25 (0, 0) HA.out
 have b0 := cell_of_row _ _ 0 _ 25 (0, 0) HB.out
 have b1 := cell_of_row _ _ 1 _ 25 (0, 0) HB.out
 have b2 := cell_of_row _ _ 2 _ 25 (0, 0) HB.out
 simp only [List.getElem?_toArray, List.getElem?_cons_zero, List.getElem?_cons_succ] at a0 a1 a2 b0 b1 b2
 rw [hka] at a2
 rw [hkb] at b2
 have HK := Lib.hid (And.intro hka hkb)
 have hla : Ba < W.heap.size := (Array.getElem?_eq_some_iff.1 HA.out).1
 have hlb : Bb < W.heap.size := (Array.getElem?_eq_some_iff.1 HB.out).1
 clear hY hJ h0 hJx hA hB ha hb hW hN hka hkb
 refine callsIn_of_wp Tryd.func92 rfl trivial ?_ rfl
 simp only [Tryd.ntmps92, List.size_toArray, List.length_cons, List.length_nil, Nat.reduceAdd, Nat.reduceSub, Array.replicate_succ, Array.replicate_zero, List.push_toArray, List.append_toArray, List.nil_append, List.cons_append]
 refine wpIn_wide.2 ?_
 go_wp2_with fail
 obtain ⟨W1, hW1⟩ : ∃ W1, (((W.alloc (.cells #[.int .i64 a.kind, .string a.lab, .slice A1 a.kids.length c1] 25)).alloc (.cells #[.int .i64 b.kind, .string b.lab, .slice A2 b.kids.length c2] 25)).alloc (.cells #[.slice (some ⟨W.heap.size, 0, none⟩) 1 1, .slice (some ⟨W.heap.size + 1, 0, none⟩) 1 1] 122)) = W1 := ⟨_, rfl⟩
 have hB1 : Below W.heap.size W W1 := by rw [← hW1]; exact (((Below.refl _ W).alloc (Nat.le_refl _) _).alloc (by simp) _).alloc (by simp; try omega) _
 have hz1 : W1.heap.size = W.heap.size + 3 := by rw [← hW1]; simp
 obtain ⟨r0, hr0⟩ : ∃ r0 : Rw, r0 = ⟨.slice (some ⟨W.heap.size, 0, none⟩) 1 1, .slice (some ⟨W.heap.size + 1, 0, none⟩) 1 1, [a], [b]⟩ := ⟨_, rfl⟩
 have hrow0 : W1.ownsRow W.heap.size 122 2 (.slice (some ⟨W.heap.size + 1 + 1, 0, none⟩) [r0].length 1) [r0].length (flatR [r0]) := by
  rw [hr0]
  refine ⟨by simp [flatR], .inr ⟨W.heap.size + 1 + 1, 1, #[.slice (some ⟨W.heap.size, 0, none⟩) 1 1, .slice (some ⟨W.heap.size + 1, 0, none⟩) 1 1], rfl, by omega, ?_, by simp, by unfold maxLen; omega, rfl, rfl⟩⟩
  rw [← hW1]
  have := World.alloc_heap_new ((W.alloc (.cells #[.int .i64 a.kind, .string a.lab, .slice A1 a.kids.length c1] 25)).alloc (.cells #[.int .i64 b.kind, .string b.lab, .slice A2 b.kids.length c2] 25)) (.cells #[.slice (some ⟨W.heap.size, 0, none⟩) 1 1, .slice (some ⟨W.heap.size + 1, 0, none⟩) 1 1] 122)
  simpa [flatR] using this
 have hone : ∀ (t : T) (g : Nat) (A : Option Addr) (c : Nat), t.kv = .slice A t.kids.length c → W1.heap[g]? = some (.cells #[.int .i64 t.kind, .string t.lab, .slice A t.kids.length c] 25 (0, 0)) → TR N W1 t.kv t.kids → TR W1.heap.size W1 (.slice (some ⟨g, 0, none⟩) 1 1) [t] := by
  intro t g A c hkv hg ht
  have hgl := (Array.getElem?_eq_some_iff.1 hg).1
  refine .mk (some ⟨g, 0, none⟩) 1 [t] ⟨g, 0, none⟩ (by simp) (fun _ => ⟨rfl, hgl⟩) (fun i hi => ?_) (fun i hi => ?_) (fun i hi => ?_) (fun i hi => ?_)
  all_goals obtain rfl : i = 0 := by simpa using hi
  ·simpa [Addr.add] using cell_of_row _ _ 0 _ 25 (0, 0) hg
  ·simpa [Addr.add] using cell_of_row _ _ 1 _ 25 (0, 0) hg
  ·simpa [Addr.add, hkv] using cell_of_row _ _ 2 _ 25 (0, 0) hg
  ·have hms : ∀ {N N' : Nat} {w : World} {v : Value} {l : List T}, TR N w v l → N ≤ N' → TR N' w v l := by
    intro N N' w v l h hN
    induction h with
    | mk A c l ad hlc hA h0 h1 h2 hk ih => exact .mk A c l ad hlc (fun h => ⟨(hA h).1, Nat.lt_of_lt_of_le (hA h).2 hN⟩) h0 h1 h2 ih
   exact hms ht (by omega)
 have hrl0 : Rl N W1 [r0] := by
  refine .inr ⟨r0, a, b, rfl, by rw [hr0], by rw [hr0], ?_, HTa.out.bel (hB1.mono hNW), HTb.out.bel (hB1.mono hNW)⟩
  rw [hr0]
  refine ⟨hone a _ A1 c1 HK.out.1 ?_ (HTa.out.bel (hB1.mono hNW)), hone b _ A2 c2 HK.out.2 ?_ (HTb.out.bel (hB1.mono hNW))⟩
  ·show W1.heap[W.heap.size]? = _
   rw [← hW1, Below.heap_alloc _ _ _ (by simp; try omega), Below.heap_alloc _ _ _ (by simp)]
   exact World.alloc_heap_new W _
  ·show W1.heap[W.heap.size + 1]? = _
   rw [← hW1, Below.heap_alloc _ _ _ (by simp)]
   have := World.alloc_heap_new (W.alloc (.cells #[.int .i64 a.kind, .string a.lab, .slice A1 a.kids.length c1] 25)) (.cells #[.int .i64 b.kind, .string b.lab, .slice A2 b.kids.length c2] 25)
   rwa [World.size_alloc] at this
 have hj1 : J [] W1 := HJ.out [] W W1 HJ0.out (Rel.of_below hB1)
 have hout0 : [] ++ outS [r0] = zipT a b := by rw [hr0]; simp [outS, zipTL_cons, zipTL_nil]
 have S0 := Lib.hid (show W1.ownsRow W.heap.size 122 2 (.slice (some ⟨W.heap.size + 1 + 1, 0, none⟩) [r0].length 1) [r0].length (flatR [r0]) ∧ Rl N W1 [r0] ∧ [] ++ outS [r0] = zipT a b ∧ J [] W1 ∧ W.heap.size ≤ W1.heap.size from ⟨hrow0, hrl0, hout0, hj1, hB1.size⟩)
 try rw [hW1]
 clear a0 a1 a2 b0 b1 b2 hrow0 hone hrl0 hj1 hout0 hr0 hB1 hz1 HK HTa HTb HA HB hW1 HJ0
 go_loopg [4] ((outS [r0]).length) (fun k v wr => ∃ (st : List Rw) (done : List (T × T)) (A : Option Addr) (q : Nat), v = .slice A st.length q ∧ wr.ownsRow W.heap.size 122 2 (.slice A st.length q) st.length (flatR st) ∧ Rl N wr st ∧ done ++ outS st = zipT a b ∧ J done wr ∧ W.heap.size ≤ wr.heap.size ∧ st.length ≤ done.length + 1 ∧ k = (outS st).length)
 case atStart => exact ⟨[r0], [], _, _, rfl, S0.out.1, S0.out.2.1, S0.out.2.2.1, S0.out.2.2.2.1, S0.out.2.2.2.2, by simp, rfl⟩
 case round =>
  obtain ⟨st, done, A, q, rfl, hrow, hrl, hdone, hj, hwz, hstl, rfl⟩ := hrel
  have hdl : done.length ≤ 1000 := HBD.out done wr hj
  by_cases h0 : st = []
  ·subst h0
   have hd : done = zipT a b := by rw [← hdone]; simp [outS]
   subst hd
   have HJE := Lib.hid hj
   clear hrow hrl hdone hj
   go_wp2_with fail
   go_end0
   exact ⟨⟨_, rfl⟩, .inl HJE.out⟩
  ·obtain ⟨pre, r, t, ts, u, us, va', vb', rfl, hra, hrb, hpre, ht, hu, hva, hvb, hcall⟩ := hrl.top (Nat.le_trans hNW hwz) h0
   obtain ⟨A3, c3, hkt, -⟩ := ht.form
   obtain ⟨A4, c4, hku, -⟩ := hu.form
   obtain ⟨A5, c5, hk5, -⟩ := hva.form
   obtain ⟨A6, c6, hk6, -⟩ := hvb.form
   have hrl2 : 0 < (pre ++ [r]).length := by simp
   have hcut : wr.ownsRow W.heap.size 122 2 (.slice A pre.length q) pre.length (flatR pre) := own_cut (n := (pre ++ [r]).length) (ys := flatR [r]) (by rw [← flatR_app]; exact hrow) (flatR_len pre) (by simp)
   obtain ⟨g, rfl⟩ : ∃ g, A = some ⟨g, 0, none⟩ := by
    rcases hrow.2 with ⟨he, h0⟩ | ⟨g, c2, cur, he, _⟩
    ·simp at h0
    ·injection he with e1 _ _; exact ⟨g, e1⟩
   have q0 : wr.cell? ⟨g, pre.length * 2, none⟩ = some r.va := by
    have := hrow.cells (g := g) rfl (pre.length * 2) r.va (by rw [flatR_app, List.getElem?_append_right (by rw [flatR_len]; exact Nat.le_refl _), flatR_len, Nat.sub_self]; simp [flatR])
    by_cases hk0 : pre.length * 2 = 0
    ·rw [hk0] at this ⊢; simpa [Addr.add] using this
    ·simpa [Addr.add, hk0] using this
   have q1 : wr.cell? ⟨g, pre.length * 2 + 1, none⟩ = some r.vb := by
    have := hrow.cells (g := g) rfl (pre.length * 2 + 1) r.vb (by rw [flatR_app, List.getElem?_append_right (by rw [flatR_len]; omega), flatR_len, Nat.add_sub_cancel_left]; simp [flatR])
    simpa [Addr.add] using this
   have hlast : ((pre ++ [r]).length : Int) - 1 = (pre.length : Int) := by simp
   have hlt1 : (pre.length : Int) < ((pre ++ [r]).length : Int) := by simp; omega
   have hge1 : (0 : Int) < ((pre ++ [r]).length : Int) := by simp; try omega
   have hlen : (pre ++ [r]).length ≤ 100000 := by omega
   have hst2 : (pre ++ fulls [⟨va', vb', ts, us⟩, ⟨t.kv, u.kv, t.kids, u.kids⟩]).length ≤ (done ++ [(t, u)]).length + 1 := by
    have h1 : (fulls [⟨va', vb', ts, us⟩, ⟨t.kv, u.kv, t.kids, u.kids⟩]).length ≤ 2 := by unfold fulls; exact Nat.le_trans (List.length_filter_le _ _) (by simp)
    simp only [List.length_append, List.length_singleton] at hstl ⊢
    omega
   have HST2 := Lib.hid hst2
   clear hst2 hstl hdl
   have hdn : done ++ (t, u) :: outS (pre ++ fulls [⟨va', vb', ts, us⟩, ⟨t.kv, u.kv, t.kids, u.kids⟩]) = zipT a b := by
    rw [← hdone, outS_fulls, outS_snoc, hra, hrb, zipTL_cons, zipT_eq]
    simp
   have hme : (outS (pre ++ [r])).length = (outS (pre ++ fulls [⟨va', vb', ts, us⟩, ⟨t.kv, u.kv, t.kids, u.kids⟩])).length + 1 := by
    rw [outS_fulls, outS_snoc, hra, hrb, zipTL_cons, zipT_eq]
    simp
   unfold FirstR T.v Rw.v at hcall
   have S1 := Lib.hid (And.intro hcut (And.intro hpre (And.intro hdn (And.intro hme (And.intro hj hwz)))))
   have S2 := Lib.hid (And.intro ht (And.intro hu (And.intro hva hvb)))
   have HC := Lib.hid hcall
   have HK2 := Lib.hid (And.intro hkt (And.intro hku (And.intro hk5 hk6)))
   rw [hkt, hku, hk5, hk6] at HC
   have hpn : (pre ++ [r]).length = pre.length + 1 := by simp
   rw [hpn] at hlast hlt1 hge1 hlen ⊢
   generalize r.va = Va at *
   generalize r.vb = Vb at *
   clear hrow hrl hdone hj hwz hra hrb hpre ht hu hva hvb hcall hcut hdn hme hkt hku hk5 hk6 h0 hrl2 hpn
   go_upto_region 4 with (go_at_call 93; refine HC.out.mono ?_; rintro e w1 ⟨rfl, hb1⟩; have HB1 := Lib.hid hb1; clear hb1)
   obtain ⟨W3, hW3⟩ : ∃ W3, ((w1.alloc (.cells #[.int .i64 t.kind, .string t.lab, .slice A3 t.kids.length c3] 25)).alloc (.cells #[.int .i64 u.kind, .string u.lab, .slice A4 u.kids.length c4] 25)).alloc (.cells #[.slice A5 ts.length c5, .slice A6 us.length c6] 122) = W3 := ⟨_, rfl⟩
   have hb3 : Below wr.heap.size wr W3 := by rw [← hW3]; exact (((HB1.out.alloc HB1.out.size _).alloc (by have := HB1.out.size; simp; omega) _).alloc (by have := HB1.out.size; simp; omega) _)
   have x6 : W3.heap[w1.heap.size]? = some (.cells #[.int .i64 t.kind, .string t.lab, .slice A3 t.kids.length c3] 25 (0, 0)) := by
    rw [← hW3, Below.heap_alloc _ _ _ (by simp; try omega), Below.heap_alloc _ _ _ (by simp)]
    exact World.alloc_heap_new w1 _
   have x7 : W3.heap[w1.heap.size + 1]? = some (.cells #[.int .i64 u.kind, .string u.lab, .slice A4 u.kids.length c4] 25 (0, 0)) := by
    rw [← hW3, Below.heap_alloc _ _ _ (by simp)]
    have := World.alloc_heap_new (w1.alloc (.cells #[.int .i64 t.kind, .string t.lab, .slice A3 t.kids.length c3] 25)) (.cells #[.int .i64 u.kind, .string u.lab, .slice A4 u.kids.length c4] 25)
    rwa [World.size_alloc] at this
   have x8 : W3.heap[w1.heap.size + 1 + 1]? = some (.cells #[.slice A5 ts.length c5, .slice A6 us.length c6] 122 (0, 0)) := by
    rw [← hW3]
    have := World.alloc_heap_new ((w1.alloc (.cells #[.int .i64 t.kind, .string t.lab, .slice A3 t.kids.length c3] 25)).alloc (.cells #[.int .i64 u.kind, .string u.lab, .slice A4 u.kids.length c4] 25)) (.cells #[.slice A5 ts.length c5, .slice A6 us.length c6] 122)
    rwa [World.size_alloc, World.size_alloc] at this
   have y0 := cell_of_row _ _ 0 _ 25 (0, 0) x6
   have y1 := cell_of_row _ _ 1 _ 25 (0, 0) x6
   have y2 := cell_of_row _ _ 2 _ 25 (0, 0) x6
   have z0 := cell_of_row _ _ 0 _ 25 (0, 0) x7
   have z1 := cell_of_row _ _ 1 _ 25 (0, 0) x7
   have z2 := cell_of_row _ _ 2 _ 25 (0, 0) x7
   simp only [List.getElem?_toArray, List.getElem?_cons_zero, List.getElem?_cons_succ] at y0 y1 y2 z0 z1 z2
   have hj3 : J done W3 := HJ.out done wr W3 S1.out.2.2.2.2.1 (Rel.of_below hb3)
   have hw3 : W.heap.size ≤ W3.heap.size := Nat.le_trans S1.out.2.2.2.2.2 hb3.size
   have hpfx : done ++ [(t, u)] <+: zipT a b := ⟨_, (List.append_assoc _ _ _).trans S1.out.2.2.1⟩
   have HPF := Lib.hid hpfx
   obtain ⟨fn, tmps, assign, body, hy, hR⟩ := HY.out done (t, u) W3 hpfx hw3 hj3
   simp only [encZ, T.v] at hy
   rw [HK2.out.1, HK2.out.2.1] at hy
   have X3 := Lib.hid (And.intro x6 (And.intro x7 (And.intro x8 (And.intro hb3 hw3))))
   have HR := Lib.hid hR
   clear x6 x7 x8 hb3 hj3 hw3 hpfx hR
   try rw [hW3]
   clear hW3
   refine wpIn_wide.1 (?_ : Code.wpIn Fence.wide n Tryd.prog _ _ _ _)
   gi_wp2
   refine ⟨fun h => (by cases h), ?_⟩
   refine HR.out.mono ?_
   rintro e W4 ⟨hkf, (⟨rfl, hJ4, hk4⟩ | ⟨rfl, hJx4⟩)⟩
   ·have X4 := Lib.hid (And.intro hkf (And.intro hJ4 hk4))
    clear hkf hJ4 hk4
    gi_wp2
    go_upto_region 5 with (fail)
    obtain ⟨x6, x7, x8, hb3, hw3⟩ := X3.out
    obtain ⟨hkf, hJ4, hk4⟩ := X4.out
    have x6' := hk4.cells _ _ _ _ x6 rfl
    have x7' := hk4.cells _ _ _ _ x7 rfl
    have x8' := hk4.cells _ _ _ _ x8 rfl
    have y2' := cell_of_row _ _ 2 _ 25 (0, 0) x6'
    have z2' := cell_of_row _ _ 2 _ 25 (0, 0) x7'
    have u0 := cell_of_row _ _ 0 _ 122 (0, 0) x8'
    have u1 := cell_of_row _ _ 1 _ 122 (0, 0) x8'
    simp only [List.getElem?_toArray, List.getElem?_cons_zero, List.getElem?_cons_succ] at y2' z2' u0 u1
    have S5' := Lib.hid (show S5 W4 w1.heap.size (.slice A3 t.kids.length c3) (.slice A4 u.kids.length c4) (.slice A5 ts.length c5) (.slice A6 us.length c6) W4.drew from S5.drew ⟨y2', z2', u0, u1⟩)
    -- what stands lies as it lay
    obtain ⟨hcut, hpre, hdn, hme, -, hwz⟩ := S1.out
    obtain ⟨ht, hu, hva, hvb⟩ := S2.out
    have hNr : N ≤ wr.heap.size := Nat.le_trans hNW hwz
    have hall : ∀ {v : Value} {l : List T}, TR N wr v l → TR N W4 v l := fun h => (h.bel (hb3.mono hNr)).kp hk4
    have hcut4 : W4.ownsRow W.heap.size 122 2 (.slice (some ⟨g, 0, none⟩) pre.length q) pre.length (flatR pre) := KpX.row (own_bel hcut hb3) hk4 rfl
    have hgl : g < W4.heap.size := by
     rcases hcut4.2 with ⟨he, _⟩ | ⟨g', c2, cur, he, _, hg', _⟩
     ·cases he
     ·injection he with e1 _ _
      injection e1 with e1
      injection e1 with e1 _ _
      subst e1
      exact (Array.getElem?_eq_some_iff.1 hg').1
    have hrl4 : ∀ x ∈ pre ++ fulls [(⟨va', vb', ts, us⟩ : Rw), ⟨t.kv, u.kv, t.kids, u.kids⟩], x.full ∧ x.ok N W4 := by
     intro x hx
     rcases List.mem_append.1 hx with hx | hx
     ·obtain ⟨h1, h2, h3⟩ := hpre x hx
      exact ⟨h1, hall h2, hall h3⟩
     ·obtain ⟨h1, h2⟩ := List.mem_filter.1 hx
      refine ⟨by simpa using h2, ?_⟩
      simp only [List.mem_cons, List.not_mem_nil, or_false] at h1
      rcases h1 with rfl | rfl
      ·exact ⟨hall hva, hall hvb⟩
      ·exact ⟨hall ht, hall hu⟩
    have hform : ∀ r ∈ [(⟨va', vb', ts, us⟩ : Rw), ⟨t.kv, u.kv, t.kids, u.kids⟩], r.formed := by
     intro x hx
     simp only [List.mem_cons, List.not_mem_nil, or_false] at hx
     rcases hx with rfl | rfl
     ·exact ⟨_, _, _, _, HK2.out.2.2.1, HK2.out.2.2.2⟩
     ·exact ⟨_, _, _, _, HK2.out.1, HK2.out.2.1⟩
    have hbA : Below W4.heap.size W4 (W4.alloc (.cells #[.slice A5 ts.length c5, .slice A6 us.length c6, .slice A3 t.kids.length c3, .slice A4 u.kids.length c4] 122)).drew := ((Below.refl _ W4).alloc (Nat.le_refl _) _).drew
    have hwith : Calls Tryd.prog 94 #[.slice (some ⟨g, 0, none⟩) pre.length q, .slice (some ⟨W4.heap.size, 0, none⟩) 2 2] (W4.alloc (.cells #[.slice A5 ts.length c5, .slice A6 us.length c6, .slice A3 t.kids.length c3, .slice A4 u.kids.length c4] 122)).drew (WithR W.heap.size (.slice (some ⟨g, 0, none⟩) pre.length q) (pre ++ fulls [⟨va', vb', ts, us⟩, ⟨t.kv, u.kv, t.kids, u.kids⟩]) (W4.alloc (.cells #[.slice A5 ts.length c5, .slice A6 us.length c6, .slice A3 t.kids.length c3, .slice A4 u.kids.length c4] 122)).drew) := by
     refine with_any (own_bel hcut4 hbA) ?_ ?_ ?_ hform ?_
     ·have := hkf.size; have := hbA.size; omega
     ·rw [HK2.out.1, HK2.out.2.1, HK2.out.2.2.1, HK2.out.2.2.2]; exact World.alloc_heap_new W4 _
     ·simp only [Value.ownBlock]; intro e; injection e with e; omega
     ·omega
    have SA := Lib.hid (show S5 W4 w1.heap.size (.slice A3 t.kids.length c3) (.slice A4 u.kids.length c4) (.slice A5 ts.length c5) (.slice A6 us.length c6) (W4.alloc (.cells #[.slice A5 ts.length c5, .slice A6 us.length c6, .slice A3 t.kids.length c3, .slice A4 u.kids.length c4] 122)).drew from S5.drew (S5.alloc ⟨y2', z2', u0, u1⟩ _))
    have hRA : Rel W.heap.size W4 (W4.alloc (.cells #[.slice A5 ts.length c5, .slice A6 us.length c6, .slice A3 t.kids.length c3, .slice A4 u.kids.length c4] 122)).drew := Rel.of_below hbA
    have HRA := Lib.hid hRA
    have hgp : g < w1.heap.size := by
     have h1 := HB1.out.size
     rcases hcut.2 with ⟨he, _⟩ | ⟨g', c2, cur, he, _, hg', _⟩
     ·cases he
     ·injection he with e1 _ _
      injection e1 with e1
      injection e1 with e1 _ _
      subst e1
      have := (Array.getElem?_eq_some_iff.1 hg').1
      omega
    have HGP := Lib.hid hgp
    clear hgp
    have HWT := Lib.hid hwith
    have HRL := Lib.hid hrl4
    have X5 := Lib.hid (And.intro hJ4 (And.intro hkf (And.intro hdn hme)))
    have hlq : (pre.length : Int) ≤ (q : Int) := by
     rcases hcut4.2 with ⟨he, _⟩ | ⟨g', c2, cur, he, _, _, hc, _⟩
     ·cases he
     ·injection he with _ _ e3; omega
    clear x6 x7 x8 hb3 hw3 hkf hJ4 hk4 x6' x7' x8' hcut hpre hdn hme hwz ht hu hva hvb hNr hall hcut4 hgl hrl4 hform hwith hbA hRA y0 y1 y2 z0 z1 z2 y2' z2' u0 u1 hy
    generalize w1.heap.size = p at *
    generalize hTs : ts.length = n5 at *
    generalize hUs : us.length = n6 at *
    generalize hTk : t.kids.length = n3 at *
    generalize hUk : u.kids.length = n4 at *
    go_region_held3 (fun w' => w'.cell? ⟨p, 2, none⟩ = some (.slice A3 n3 c3) ∧ w'.cell? ⟨p + 1, 2, none⟩ = some (.slice A4 n4 c4) ∧ w'.cell? ⟨p + 1 + 1, 0, none⟩ = some (.slice A5 n5 c5) ∧ w'.cell? ⟨p + 1 + 1, 1, none⟩ = some (.slice A6 n6 c6)) (first | exact S5'.out | exact SA.out | exact S6.out)
     (first | (go_at_call 94; refine HWT.out.mono ?_; rintro e w6 ⟨v6, rfl, hrow6, hrel6, hfr6⟩; have X6 := Lib.hid (And.intro hrow6 hrel6); have S6 := Lib.hid (S5.fr SA.out HGP.out hfr6); clear hrow6 hrel6 hfr6))
    obtain ⟨hrow6, hrel6⟩ := X6.out
    obtain ⟨hJ4, hkf, hdn, hme⟩ := X5.out
    have hrl6 := HRA.out.trans hrel6
    have hj6 := HJ.out _ W4 w6 hJ4 hrl6
    have hsz6 : W.heap.size ≤ w6.heap.size := by have h1 := hrl6.size; have h2 := hkf.size; have h3 := X3.out.2.2.2.2; omega
    have hok6 : Rl N w6 (pre ++ fulls [⟨va', vb', ts, us⟩, ⟨t.kv, u.kv, t.kids, u.kids⟩]) := by
     refine .inl fun x hx => ?_
     obtain ⟨h1, h2, h3⟩ := HRL.out x hx
     have hlow : ∀ k, k < N → w6.heap[k]? = W4.heap[k]? := fun k hk => hrl6.block k (by have h2 := hkf.size; have h3 := X3.out.2.2.2.2; omega) (.inl (by omega))
     exact ⟨h1, h2.keep hlow, h3.keep hlow⟩
    obtain ⟨A7, q7, rfl⟩ := row_form hrow6
    have R := Lib.hid (And.intro hrow6 (And.intro hok6 (And.intro hdn (And.intro hj6 (And.intro hsz6 hme)))))
    clear hrow6 hrel6 hJ4 hkf hdn hme hrl6 hj6 hsz6 hok6
    go_wp2_with fail
    go_roundg ((outS (pre ++ fulls [⟨va', vb', ts, us⟩, ⟨t.kv, u.kv, t.kids, u.kids⟩])).length)
    case measure => have := R.out.2.2.2.2.2; omega
    case rel => exact ⟨_, _, _, _, rfl, R.out.1, R.out.2.1, by rw [List.append_assoc]; exact R.out.2.2.1, R.out.2.2.2.1, R.out.2.2.2.2.1, HST2.out, rfl⟩
   ·have X4 := Lib.hid hJx4
    clear hkf hJx4
    gi_wp2
    go_wp2_with fail
    refine bodyPost_ret (results_none rfl _ _ _) rfl ?_
    exact ⟨⟨_, rfl⟩, .inr ⟨_, HPF.out, X4.out⟩⟩

set_option maxRecDepth 100000 in
set_option maxHeartbeats 4000000 in
theorem parts_seq0B {w0 : World} {N : Nat} (n : Nat) (hn : 4 ≤ n) {a : T} {Ba : Nat} (hA : BoxT w0 Ba a) (ha : TR N w0 a.kv a.kids) (hN : N ≤ w0.heap.size) :
  SeqB (fun pre => pre.length ≤ 1000) Fence.wide n Tryd.prog 75 #[.pointer (some ⟨Ba, 0, none⟩)] encT (KpX N) (zipT a a) w0 := by
 intro l J Jx W hW hJ hJx hBd hY h0
 have HBD := Lib.hid hBd
 clear hBd
 obtain ⟨A1, c1, hka, -⟩ := ha.form
 obtain ⟨a0, a1, a2⟩ := (hA.bel hW).cells hka
 have hl := Nat.lt_of_lt_of_le hA.lt hW.size
 have HY := Lib.hid hY
 have HJ := Lib.hid hJ
 have HJX := Lib.hid hJx
 have HJ0 := Lib.hid h0
 have HA := Lib.hid (And.intro (ha.bel (hW.mono hN)) (And.intro (Nat.le_trans hN hW.size) hka))
 clear hY hJ hJx h0 hA ha hW hN hka
 refine callsIn_of_wp_marks Tryd.func75 rfl trivial ?_ rfl
 simp only [Tryd.ntmps75, List.size_toArray, List.length_cons, List.length_nil, Nat.reduceAdd, Nat.reduceSub, Array.replicate_succ, Array.replicate_zero, List.push_toArray, List.append_toArray, List.nil_append, List.cons_append]
 refine wpIn_wide.2 ?_
 go_wp2_with (go_at_call 76; refine (pairs_any (a := a) (b := a) HA.out.2.2 HA.out.2.2 _).mono ?_; rintro e w1 ⟨rfl, hx1, hx2, hbw⟩)
 have hb1 : Below W.heap.size W w1 := ((Below.refl _ W).alloc (Nat.le_refl _) _).trans (hbw.mono (by simp))
 have hyb : Boxed w1 W.heap.size 61 (.func (.yield l) #[] #[]) := (hbw.block _ (by simp)).trans (Boxed.new W _ _)
 have hseq := pairs_seqB (n - 1) (by omega) hx1 hx2 (HA.out.1.bel (hb1.mono HA.out.2.1)) (HA.out.1.bel (hb1.mono HA.out.2.1)) (Nat.le_trans HA.out.2.1 hb1.size)
 have hj1 : J [] w1 := HJ.out [] W w1 HJ0.out (Rel.of_below hb1)
 try simp only [World.size_alloc] at hseq
 try simp only [World.size_alloc]
 have HSEQ := Lib.hid hseq
 have HYB := Lib.hid hyb
 have HJ1 := Lib.hid hj1
 have hz1 : W.heap.size ≤ w1.heap.size := hb1.size
 have hNw : N ≤ w1.heap.size := Nat.le_trans HA.out.2.1 hz1
 have hkv : Hid (∀ z ∈ zipT a a, ∃ A c, z.1.kv = .slice A z.1.kids.length c) := Lib.hid fun z hz => by
  obtain ⟨A, c, h, _⟩ := (zip_ok a a HA.out.1 HA.out.1 z hz).1.form
  exact ⟨A, c, h⟩
 clear hbw hb1 hyb hseq hj1 hx1 hx2 a0 a1 a2
 refine wpIn_wide.1 (?_ : Code.wpIn Fence.wide n Tryd.prog _ _ _ _)
 refine wpIn_rangeFunc_B rfl (by omega) (gf := 92) (lb := #[.pointer (some ⟨W.heap.size + 1, 0, none⟩), .pointer (some ⟨W.heap.size + 1 + 1, 0, none⟩)]) rfl trivial (enters_of Tryd.func92 (by kernel_rfl) rfl)
  HSEQ.out KpX.trans (fun W' l' o o' hlw hl' ho _ => KpX.putObj W' l' o o' (by omega) hl' ho) (Below.refl _ _) (fun _ => rfl)
  (fun pre W' => J pre W' ∧ Boxed W' W.heap.size 61 (.func (.yield l) #[] #[]) ∧ W.heap.size ≤ W'.heap.size) (fun c pre W' => c = .ret ∧ Jx pre W') ?hI ?hX ⟨HJ1.out, HYB.out, hz1⟩ (fun pre W h => HBD.out pre W h.1)
  (fun z a' W' => ∃ A, a' = { tmps := #[.func (.yield l) #[] #[], .pointer (some ⟨Ba, 0, none⟩), .pointer (some ⟨W.heap.size, 0, none⟩), .pointer (some ⟨A, 0, none⟩), .agg #[.int .i64 a.kind, .string a.lab, .slice A1 a.kids.length c1], .agg #[.int .i64 a.kind, .string a.lab, .slice A1 a.kids.length c1], .func (.func 92) #[] #[.pointer (some ⟨W.heap.size + 1, 0, none⟩), .pointer (some ⟨W.heap.size + 1 + 1, 0, none⟩)], z.1.v, z.2.v, undef, undef, undef, undef], defers := [] } ∧ BoxT W' A z.1) ?hA ?assign ?body ?done ?stop
 case hI =>
  rintro s X Y ⟨hj, hy, hz⟩ hr
  exact ⟨HJ.out s X Y hj (hr.mono hz1), hr.cells hy (by decide), Nat.le_trans hz hr.size⟩
 case hX =>
  rintro c s X Y ⟨rfl, hj⟩ hr
  exact ⟨rfl, HJX.out s X Y hj (hr.mono hz1)⟩
 case hA =>
  rintro z a' _ X Y ⟨A, rfl, hc⟩ hr
  exact ⟨A, rfl, hr.cells hc (by decide)⟩
 case assign =>
  intro l1 pre z W' K hI hpx hK
  obtain ⟨A, c, hk⟩ := hkv.out z (hpx.subset (by simp))
  have HK := Lib.hid hK
  have HI' := Lib.hid hI
  have HKV := Lib.hid hk
  unfold encZ T.v
  rw [hk]
  clear hK hI hk
  gi_wp2
  have hbw : Below W'.heap.size W' (W'.alloc (.cells #[.int .i64 z.1.kind, .string z.1.lab, .slice A z.1.kids.length c] 25)) := (Below.refl _ W').alloc (Nat.le_refl _) _
  obtain ⟨hj, hy, hz⟩ := HI'.out
  refine HK.out _ _ ((below_others hbw).from _) (KpX.of_below hbw (by have := HA.out.2.1; omega)) ⟨HJ.out pre W' _ hj (Rel.of_below hbw), hy.alloc _, Nat.le_trans hz hbw.size⟩ ⟨W'.heap.size, ?_, ?_⟩
  ·simp only [T.v, HKV.out]
  ·unfold BoxT
   rw [HKV.out]
   exact World.alloc_heap_new W' _
 case body =>
  rintro l1 pre z a' W' hwl hloop hpx ⟨hj, hy, hz⟩ ⟨A, rfl, hc⟩
  obtain ⟨A7, c7, hk⟩ := hkv.out z (hpx.subset (by simp))
  obtain ⟨c0, c1', c2'⟩ := hc.cells hk
  have cy := hy.cell
  obtain ⟨fn, tmps, assign, body, hy', hR⟩ := yield_round (l1 := l1) (m' := n - 1 - 1 - 1) (HY.out pre z W' hpx hz hj)
  simp only [encT, T.v] at hy'
  rw [hk] at hy'
  have HYY := Lib.hid (And.intro hy hz)
  clear hk hc hy hz hj
  gi_wp2
  refine ⟨fun h => (by cases h), ?_⟩
  refine hR.mono ?_
  rintro e W4 ⟨hkf, (⟨rfl, hJ4, hk4⟩ | ⟨rfl, hJx4⟩)⟩
  ·have R4 := Lib.hid (show KeepsFrom w1.heap.size W' W4 ∧ KpX N W' W4 ∧ J (pre ++ [z]) W4 ∧ Boxed W4 W.heap.size 61 (.func (.yield l) #[] #[]) ∧ W.heap.size ≤ W4.heap.size from ⟨kf_mono hkf hz1, hk4, hJ4, hk4.cells _ _ _ _ HYY.out.1 rfl, Nat.le_trans HYY.out.2 hkf.size⟩)
   clear hkf hJ4 hk4
   gi_wp2
   exact R4.out
  ·have R4 := Lib.hid (show KeepsFrom w1.heap.size W' W4 ∧ Code.ret = Code.ret ∧ Jx (pre ++ [z]) W4 from ⟨kf_mono hkf hz1, rfl, hJx4⟩)
   clear hkf hJx4
   gi_wp2
   exact ⟨R4.out.1, rfl, R4.out.2.2⟩
 case done =>
  rintro D W' hD ⟨hj, hy, hz⟩ hK
  have R := Lib.hid (HJ.out.putObj (.deferred none) hj (Nat.le_trans hz1 hD) hK rfl)
  clear hj hy
  go_wp2
  refine ⟨by simp, .inl ⟨_, _, rfl, run_takeDeferred hK, ?_⟩⟩
  exact ⟨_, results_none rfl _ _ _, ⟨_, rfl⟩, .inl R.out⟩
 case stop =>
  rintro D c pre W' hD hpre ⟨rfl, hj⟩ hK
  have R := Lib.hid (HJX.out.putObj (.deferred none) hj (Nat.le_trans hz1 hD) hK rfl)
  clear hj
  gi_wp2
  refine ⟨by simp, .inl ⟨_, _, rfl, run_takeDeferred hK, ?_⟩⟩
  exact ⟨_, results_none rfl _ _ _, ⟨_, rfl⟩, .inr ⟨pre, hpre, R.out⟩⟩


theorem SeqB.map {gf : Nat} {lb : Array Value} {Kp : World → World → Prop} {w0 : World} {α β : Type} {f : α → β} {encs : β → Array Value} {xs : List α} {K : Nat} (h : SeqB (fun pre => pre.length ≤ K) F n P gf lb encs Kp (xs.map f) w0) : SeqB (fun pre => pre.length ≤ K) F n P gf lb (fun x => encs (f x)) Kp xs w0 := by
 intro l J Jx W hW hJ hJx hBd hY h0
 refine (h l (fun ys W => J (xs.take ys.length) W ∧ ys.length ≤ xs.length) (fun ys W => Jx (xs.take ys.length) W) W hW (fun s X Y hs hr => ⟨hJ _ X Y hs.1 hr, hs.2⟩) (fun s => hJx _) (fun pre W h => by have h1 : (xs.take pre.length).length ≤ K := hBd _ W h.1; rw [List.length_take, Nat.min_eq_left h.2] at h1; exact h1) ?_ ⟨by simpa using h0, by simp⟩).mono ?_
 ·intro pre y W1 hp hs hj0
  have hj := hj0.1
  have hl : pre.length < xs.length := by have := hp.length_le; simp at this; omega
  have hy : y = f xs[pre.length] := by
   obtain ⟨t, ht⟩ := hp
   have h1 : (pre ++ [y] ++ t)[pre.length]? = some y := by simp
   rw [ht] at h1
   simpa [hl] using h1.symm
  subst hy
  have e : xs.take (pre ++ [f xs[pre.length]]).length = xs.take pre.length ++ [xs[pre.length]] := by
   rw [List.length_append, List.length_singleton]
   exact List.take_succ_eq_append_getElem hl
  rw [e]
  obtain ⟨fn, tmps, assign, body, hy, hR⟩ := hY (xs.take pre.length) xs[pre.length] W1 (by rw [← List.take_succ_eq_append_getElem hl]; exact List.take_prefix _ _) hs hj
  refine ⟨fn, tmps, assign, body, hy, hR.mono ?_⟩
  rintro e' W' ⟨k1, k2⟩
  refine ⟨k1, ?_⟩
  rcases k2 with ⟨k2, k3, k4⟩ | k2
  ·exact .inl ⟨k2, ⟨k3, by rw [List.length_append, List.length_singleton]; omega⟩, k4⟩
  ·exact .inr k2
 ·rintro e W' ⟨hv, (hj | ⟨pre, hp, hj⟩)⟩
  ·exact ⟨hv, .inl (by simpa using hj.1)⟩
  ·exact ⟨hv, .inr ⟨_, List.take_prefix _ _, hj⟩⟩


theorem parts_seqB {w0 : World} {N : Nat} (n : Nat) (hn : 4 ≤ n) {a : T} {Ba : Nat} (hA : BoxT w0 Ba a) (ha : TR N w0 a.kv a.kids) (hN : N ≤ w0.heap.size) :
  SeqB (fun pre => pre.length ≤ 1000) Fence.wide n Tryd.prog 75 #[.pointer (some ⟨Ba, 0, none⟩)] encP (KpX N) (partsT a) w0 := by
 have h := parts_seq0B n hn hA ha hN
 rw [zip_self] at h
 exact SeqB.map (f := fun p : T => (p, p)) (encs := encT) h

set_option maxRecDepth 100000 in
set_option maxHeartbeats 4000000 in
theorem right37_any {N : Nat} {w : World} {v : Value} {x : X} (hx : XV N w v x) (hN : N ≤ w.heap.size) (hl : x.lit) :
  Calls Tryd.prog 37 #[v] w fun e w' => e = .returned (.bool x.right) ∧ Below w.heap.size w w' := by
 obtain ⟨a, rfl, rfl, ha⟩ := hx.tree
 obtain ⟨A, c, hk, hv⟩ := ha.cells
 rw [hv]
 have HA := Lib.hid (And.intro ha (And.intro hN (And.intro hk hl)))
 clear ha hk hv hx hl
 refine (callsIn_wide (n := 12)).1 ?_
 refine callsIn_of_wp_marks Tryd.func37 rfl trivial ?_ rfl
 simp only [Tryd.ntmps37, List.size_toArray, List.length_cons, List.length_nil, Nat.reduceAdd, Nat.reduceSub, Array.replicate_succ, Array.replicate_zero, List.push_toArray, List.append_toArray, List.nil_append, List.cons_append]
 refine wpIn_wide.2 ?_
 go_wp2_with (go_at_call 60; refine (partsOf_any (a := a) HA.out.2.2.1 _).mono ?_; rintro e w1 ⟨rfl, hx1, hbw⟩)
 have hq1 : Below w.heap.size w (w.alloc (.cells #[.int .i64 a.kind, .string a.lab, .slice A a.kids.length c] 25)) := (Below.refl _ w).alloc (Nat.le_refl _) _
 generalize hQ1 : w.alloc (.cells #[.int .i64 a.kind, .string a.lab, .slice A a.kids.length c] 25) = Q1 at *
 have hz1 : Q1.heap.size = w.heap.size + 1 := by rw [← hQ1]; simp
 have hb2 : Below (Q1.alloc (.cells #[.bool false] 4)).heap.size (Q1.alloc (.cells #[.bool false] 4)) w1 := ((Below.refl _ _).alloc (Nat.le_refl _) _).trans (hbw.mono (by simp))
 have hbk : Boxed w1 (w.heap.size + 1) 4 (.bool false) := alloc_at hz1 hb2
 have hbc : Boxed w1 (w.heap.size + 1 + 1) 3 (.int .i64 0) := alloc_at (by simp [hz1]) hbw
 have hb1 : Below w.heap.size w w1 := hq1.trans (((Below.refl _ Q1).alloc (Nat.le_refl _) _ |>.trans (hb2.mono (by simp))).mono (by omega))
 have hz1 : w.heap.size + 3 ≤ w1.heap.size := by have := hbw.size; simp at this; omega
 have hNw : N ≤ w1.heap.size := Nat.le_trans HA.out.2.1 (by omega)
 have hseq := parts_seqB 11 (by decide) hx1 (HA.out.1.bel (hb1.mono HA.out.2.1)) hNw
 simp only [World.size_alloc, show Q1.heap.size = w.heap.size + 1 by rw [← hQ1]; simp] at hseq
 have HSEQ := Lib.hid hseq
 have HB1 := Lib.hid hb1
 have HBX := Lib.hid (And.intro hbk hbc)
 have HPO := Lib.hid (parts_ok HA.out.1)
 have HPL := Lib.hid (partsT_x a)
 try simp only [World.size_alloc, show Q1.heap.size = w.heap.size + 1 by rw [← hQ1]; simp]
 clear hbw hb1 hbk hbc hseq hx1 hq1 hb2 hQ1
 refine wpIn_wide.1 (?_ : Code.wpIn Fence.wide 12 Tryd.prog _ _ _ _)
 refine wpIn_rangeFunc_B rfl (by omega) (gf := 75) (lb := #[.pointer (some ⟨w.heap.size + 1 + 1 + 1, 0, none⟩)]) rfl trivial (enters_of Tryd.func75 (by kernel_rfl) rfl)
  HSEQ.out KpX.trans (fun W' l' o o' hlw hl' ho _ => KpX.putObj W' l' o o' (by omega) hl' ho) (Below.refl _ _) (fun _ => rfl)
  (fun pre W' => (Boxed W' (w.heap.size + 1) 4 (.bool false) ∧ Boxed W' (w.heap.size + 1 + 1) 3 (.int .i64 (pre.length : Nat))) ∧ Below w.heap.size w W' ∧ (pre.length ≤ 24 ∧ ∀ p ∈ pre, p.x.fits = true))
  (fun c pre W' => (c = .ret ∧ a.x.right = false) ∧ Boxed W' (w.heap.size + 1) 4 (.bool false) ∧ Below w.heap.size w W')
  (OwnQ.and (OwnQ.and (OwnQ.boxed _ _ _ (fun _ => _) (by decide)) (OwnQ.boxed _ _ _ _ (by decide))) (OwnQ.and (ownQ_below (Nat.le_refl _) (by omega)) (ownQ_pure _ _)))
  (fun c => OwnQ.and (ownQ_pure _ _) (OwnQ.and (OwnQ.boxed _ _ _ (fun _ => _) (by decide)) (ownQ_below (Nat.le_refl _) (by omega)))) ⟨HBX.out, HB1.out, by simp, fun p hp => by cases hp⟩ (fun pre W h => Nat.le_trans h.2.2.1 (by decide))
  (fun p a' W' => ∃ A4, a' = { tmps := #[.agg #[.int .i64 a.kind, .string a.lab, .slice A a.kids.length c], .pointer (some ⟨w.heap.size, 0, none⟩), .pointer (some ⟨w.heap.size + 1, 0, none⟩), .pointer (some ⟨w.heap.size + 1 + 1, 0, none⟩), .pointer (some ⟨A4, 0, none⟩), .agg #[.int .i64 a.kind, .string a.lab, .slice A a.kids.length c], .func (.func 75) #[] #[.pointer (some ⟨w.heap.size + 1 + 1 + 1, 0, none⟩)], p.v, undef, undef, undef, undef, undef, undef, undef, undef, undef], defers := [] } ∧ BoxT W' A4 p)
  ?hA ?assign ?body ?done ?stop
 case hA =>
  rintro p a' _ X Y ⟨A4, rfl, hc⟩ hr
  exact ⟨A4, rfl, hr.cells hc (by decide)⟩
 case assign =>
  intro l1 pre p W' K hI hpx hK
  obtain ⟨A4, c4, hk, hv⟩ := (HPO.out p (hpx.subset (by simp))).cells
  have HK := Lib.hid hK
  have HI' := Lib.hid hI
  have HKV := Lib.hid (And.intro hk hv)
  unfold encP
  rw [hv]
  clear hK hI hk hv
  gi_wp2
  have hbw : Below W'.heap.size W' (W'.alloc (.cells #[.int .i64 p.kind, .string p.lab, .slice A4 p.kids.length c4] 25)) := (Below.refl _ W').alloc (Nat.le_refl _) _
  obtain ⟨⟨hb1, hb2⟩, hb3, hb4⟩ := HI'.out
  refine HK.out _ _ ((below_others hbw).from _) (KpX.of_below hbw (by have := hb3.size; omega)) ⟨⟨hb1.alloc _, hb2.alloc _⟩, hb3.alloc hb3.size _, hb4⟩ ⟨W'.heap.size, ?_, ?_⟩
  ·simp only [HKV.out.2]
  ·unfold BoxT
   rw [HKV.out.1]
   exact World.alloc_heap_new W' _
 case body =>
  rintro l1 pre p a' W' hwl hloop hpx ⟨⟨hb1, hb2⟩, hb3, hb4, hb5⟩ ⟨A4, rfl, hc⟩
  have hpm : p ∈ partsT a := hpx.subset (by simp)
  obtain ⟨A7, c7, hk, hv⟩ := (HPO.out p hpm).cells
  have hne := hc.ne hb2 (by decide)
  have hne' := hne.symm
  have hcc := hb2.cell
  have hff := hb2.frozen
  have hpxx : (pre ++ [p]).map T.x <+: a.x.parts := by rw [← HPL.out]; obtain ⟨t, ht⟩ := hpx; exact ⟨t.map T.x, by rw [← List.map_append, ht]⟩
  have hlm : p.lab.size ≤ maxLen := by
   have := HA.out.2.2.2 p.x (by rw [← HPL.out]; exact List.mem_map.2 ⟨p, hpm, rfl⟩)
   rwa [T.x_lab] at this
  have hfx : p.x.fits = fitB p.kind p.lab p.kids.length := by unfold X.fits; rw [T.x_kind, T.x_lab, T.x_kids, List.length_map]
  have hset := hb2.set (.int .i64 ((pre.length : Int) + 1))
  have hbk2 : Boxed (W'.setCell ⟨w.heap.size + 1 + 1, 0, none⟩ (.int .i64 ((pre.length : Int) + 1))) (w.heap.size + 1) 4 (.bool false) := hb1.other (by omega) _
  have hbl2 : Below w.heap.size w (W'.setCell ⟨w.heap.size + 1 + 1, 0, none⟩ (.int .i64 ((pre.length : Int) + 1))) := hb3.setCell (by show w.heap.size ≤ w.heap.size + 1 + 1; omega) _
  have hkf2 : KeepsFrom w1.heap.size W' (W'.setCell ⟨w.heap.size + 1 + 1, 0, none⟩ (.int .i64 ((pre.length : Int) + 1))) := (KeepsOthers.setCell _ _ _).from _
  have hkp2 : KpX N W' (W'.setCell ⟨w.heap.size + 1 + 1, 0, none⟩ (.int .i64 ((pre.length : Int) + 1))) := kpx_set hb2 rfl (by omega) _
  have hc2 : BoxT (W'.setCell ⟨w.heap.size + 1 + 1, 0, none⟩ (.int .i64 ((pre.length : Int) + 1))) A4 p := (Below.heap_setCell _ _ _ _ hne').trans hc
  have kc := hset.cell
  obtain ⟨d0, d1, d2⟩ := hc2.cells hk
  have H2 := Lib.hid (And.intro hset (And.intro hbk2 (And.intro hbl2 (And.intro hkf2 hkp2))))
  have HP := Lib.hid (And.intro hpxx (And.intro hb5 hfx))
  clear hc hk hv hb1 hb2 hb3 hb5 hset hbk2 hbl2 hkf2 hkp2 hpxx hfx hpm hc2
  generalize hWS : W'.setCell ⟨w.heap.size + 1 + 1, 0, none⟩ (.int .i64 ((pre.length : Int) + 1)) = WS at *
  have hwl : ∀ W5 : World, Below WS.heap.size WS W5 → KeepsFrom w1.heap.size W' W5 ∧ KpX N W' W5 ∧ Below w.heap.size w W5 := fun W5 hb => by
   obtain ⟨-, -, h3, h4, h5⟩ := H2.out
   exact ⟨h4.trans ((below_others hb).from _), h5.trans (KpX.of_below hb (by have := h3.size; omega)), h3.trans (hb.mono h3.size)⟩
  have HWL := Lib.hid hwl
  clear hwl
  have no : ∀ (W5 : World), Below WS.heap.size WS W5 → a.x.right = false → (KeepsFrom w1.heap.size W' (W5.setCell ⟨w.heap.size + 1, 0, none⟩ (.bool false)) ∧ (Code.ret = Code.ret ∧ a.x.right = false) ∧ Boxed (W5.setCell ⟨w.heap.size + 1, 0, none⟩ (.bool false)) (w.heap.size + 1) 4 (.bool false) ∧ Below w.heap.size w (W5.setCell ⟨w.heap.size + 1, 0, none⟩ (.bool false))) := fun W5 hb hr => by
   obtain ⟨h1, h2, h3⟩ := HWL.out _ hb
   exact ⟨h1.trans ((KeepsOthers.setCell _ _ _).from _), ⟨rfl, hr⟩, (Boxed.bel H2.out.2.1 hb).set _, h3.setCell (by show w.heap.size ≤ w.heap.size + 1; omega) _⟩
  have HNO := Lib.hid no
  have HBKC := Lib.hid (And.intro (Boxed.cell H2.out.2.1) (Boxed.frozen H2.out.2.1))
  clear no
  have hlen : pre.length < 100000 := by omega
  by_cases hlt : pre.length < 24
  ·have hlt' : ¬ (24 : Int) < (pre.length : Int) + 1 := by omega
   cases hft : fitB p.kind p.lab p.kids.length with
   | true =>
    have HFT := Lib.hid hft
    clear hft hpx
    gi_wp2
    refine ⟨trivial, ?_⟩
    refine (CallsIn.inRound l1 (callsIn_wide.2 (fits0 _ _ _ _ _ _ hlm))).mono ?_
    rintro e w5 ⟨rfl, hb5⟩
    have HB5 := Lib.hid hb5
    rw [HFT.out]
    clear hb5
    gi_wp2
    obtain ⟨h1, h2, h3⟩ := HWL.out _ HB5.out
    refine ⟨h1, h2, ⟨⟨Boxed.bel H2.out.2.1 HB5.out, ?_⟩, h3, by simp; omega, fun q hq => ?_⟩⟩
    ·have := Boxed.bel H2.out.1 HB5.out
     simpa using this
    ·rcases List.mem_append.1 hq with hq | hq
     ·exact HP.out.2.1 q hq
     ·obtain rfl : q = p := by simpa using hq
      rw [HP.out.2.2, HFT.out]
   | false =>
    have HFT := Lib.hid hft
    have HNR := Lib.hid (not_right HP.out.1 (.inr ⟨p.x, by simp, by rw [HP.out.2.2]; exact hft⟩))
    clear hft hpx
    gi_wp2
    refine ⟨trivial, ?_⟩
    refine (CallsIn.inRound l1 (callsIn_wide.2 (fits0 _ _ _ _ _ _ hlm))).mono ?_
    rintro e w5 ⟨rfl, hb5⟩
    have HB5 := Lib.hid hb5
    have kc5 := (Boxed.bel H2.out.2.1 hb5).cell
    have kf5 := (Boxed.bel H2.out.2.1 hb5).frozen
    rw [HFT.out]
    clear hb5
    gi_wp2
    obtain ⟨g1, ⟨-, g2⟩, g3⟩ := HNO.out _ HB5.out HNR.out
    exact ⟨g1, ⟨rfl, g2⟩, g3⟩
  ·have hlt' : (24 : Int) < (pre.length : Int) + 1 := by omega
   have HNR := Lib.hid (not_right HP.out.1 (.inl (by simp; omega)))
   obtain ⟨kc5, kf5⟩ := HBKC.out
   clear hpx
   gi_wp2
   refine ⟨trivial, ?_⟩
   gi_wp2
   obtain ⟨g1, ⟨-, g2⟩, g3⟩ := HNO.out _ (Below.refl _ _) HNR.out
   exact ⟨g1, ⟨rfl, g2⟩, g3⟩
 case done =>
  rintro D W' hD ⟨⟨hb1, hb2⟩, hb3, hb4, hb5⟩ hK
  have hr : a.x.right = true := is_right (by rw [← partsT_len]; exact hb4) (fun p hp => by
   rw [← HPL.out] at hp
   obtain ⟨q, hq, rfl⟩ := List.mem_map.1 hp
   exact hb5 q hq)
  have hc := hb1.cell
  have hf := hb1.frozen
  have hs := hb1.set (.bool true)
  have hDn : D ≠ w.heap.size + 1 := by omega
  have HB := Lib.hid (And.intro hb3 (And.intro hs hr))
  have hK2 : (W'.setCell ⟨w.heap.size + 1, 0, none⟩ (.bool true)).heap[D]? = some (.deferred (some [])) := (Below.heap_setCell _ _ _ _ hDn).trans hK
  have hs2 : ((W'.setCell ⟨w.heap.size + 1, 0, none⟩ (.bool true)).putObj D (.deferred none)).cell? ⟨w.heap.size + 1, 0, none⟩ = some (.bool true) := (World.cell?_of_block (World.putObj_heap_other (by show w.heap.size + 1 ≠ D; omega))).trans hs.cell
  have HS2 := Lib.hid hs2
  clear hb1 hb2 hb3 hb4 hb5 hs hr hs2
  go_wp2_with fail
  refine ⟨by simp, .inl ⟨_, _, rfl, run_takeDeferred hK2, ?_⟩⟩
  exact ⟨.bool true, by simp [results, Tryd.results37, go_sem, HS2.out], by rw [HB.out.2.2], belowK w (HB.out.1.setCell (by show w.heap.size ≤ w.heap.size + 1; omega) _) (by omega)⟩
 case stop =>
  rintro D c2 pre W' hD hpre ⟨⟨rfl, hr⟩, hb1, hb3⟩ hK
  have HB := Lib.hid (And.intro hb3 hr)
  have hs2 : (W'.putObj D (.deferred none)).cell? ⟨w.heap.size + 1, 0, none⟩ = some (.bool false) := (World.cell?_of_block (World.putObj_heap_other (by show w.heap.size + 1 ≠ D; omega))).trans hb1.cell
  have HS2 := Lib.hid hs2
  clear hb1 hb3 hr hs2
  gi_wp2
  refine ⟨by simp, .inl ⟨_, _, rfl, run_takeDeferred hK, ?_⟩⟩
  exact ⟨.bool false, by simp [results, Tryd.results37, go_sem, HS2.out], by rw [HB.out.2], belowK w HB.out.1 (by omega)⟩
end Go.Proofs.YtnccgaanfjaimaaDoor
