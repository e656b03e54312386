/- Texts ZD, ZQ, RA, RI, one behind the other. -/
import Derived.Test.YtnccgaanfjaimaaDoorH0
import Derived.Test.YtnccgaanfjaimaaDoorH2
import Derived.Test.YtnccgaanfjaimaaDoorH4
import Derived.Test.YtnccgaanfjaimaaDoorH5
import Derived.Lib.Strings
import Derived.Lib.Walk
import Derived.Lib.BufferWrite
import Derived.Lib.UnsafeStr
import Derived.Laws.MakeOwn
set_option linter.unusedSimpArgs false
set_option linter.unusedVariables false
namespace Go.Proofs.YtnccgaanfjaimaaDoor
open Go.ChangeShapes Go.WideShapes Go.ChangeAt Go.RowKit
set_option linter.unusedVariables false
set_option linter.unusedSimpArgs false

attribute [local go_sem] Oper.semAt_some

/-- what lies in an Nfa's block -/
def nfC (sv lv : Value) (fo : Nat → Nat) (la : Nat) (em : Bool) : List Value := sv :: lv :: ((List.range 25).map (fun p => Value.int .u32 (fo p : Int)) ++ [.int .u32 (la : Int), .bool em])
theorem nfC_len (sv lv : Value) (fo : Nat → Nat) (la : Nat) (em : Bool) : (nfC sv lv fo la em).length = 29 := by simp [nfC]
theorem nfC_fol (sv lv : Value) (fo : Nat → Nat) (la : Nat) (em : Bool) {p : Nat} (hp : p < 25) : (nfC sv lv fo la em)[2 + p]? = some (.int .u32 (fo p)) := by
  rw [nfC, Nat.add_comm, List.getElem?_cons_succ, List.getElem?_cons_succ, List.getElem?_append_left (by simpa using hp)]
  simp [hp]
theorem nfC_set (sv lv : Value) (fo fo' : Nat → Nat) (la : Nat) (em : Bool) {p : Nat} (hp : p < 25) (h : ∀ q, q ≠ p → fo' q = fo q) : (nfC sv lv fo la em).set (2 + p) (.int .u32 (fo' p)) = nfC sv lv fo' la em := by
  apply List.ext_getElem?
  intro i
  by_cases hi : i = 2 + p
  · subst hi
    rw [List.getElem?_set_self (by rw [nfC_len]; omega), nfC_fol _ _ _ _ _ hp]
  · rw [List.getElem?_set_ne (by omega)]
    unfold nfC
    rcases i with _ | _ | i
    · rfl
    · rfl
    · rw [List.getElem?_cons_succ, List.getElem?_cons_succ, List.getElem?_cons_succ, List.getElem?_cons_succ]
      by_cases h25 : i < 25
      · rw [List.getElem?_append_left (by simpa using h25), List.getElem?_append_left (by simpa using h25)]
        simp [h25]
        rw [h i (by omega)]
      · rw [List.getElem?_append_right (by simpa using h25), List.getElem?_append_right (by simpa using h25)]
        simp

structure NfB (w : World) (B N : Nat) (sv lv : Value) (s : NS) (la : Nat) (em : Bool) : Prop where
  blk : w.heap[N]? = some (.cells (nfC sv lv s.fol la em).toArray 72 (0, 0))
  row : w.ownsRow B 9 1 lv s.labs.length (s.labs.map Value.string)
  low : B ≤ N
  pos : 0 < B
/-- what is below B, and what is no Nfa's and no row of texts, lies as it lay -/
structure Kn (B : Nat) (X Y : World) : Prop where
  os : Y.os = X.os
  tape : Y.tape = X.tape
  output : Y.output = X.output
  size : X.heap.size ≤ Y.heap.size
  low : ∀ k, k < B → Y.heap[k]? = X.heap[k]?
  cells : ∀ (k : Nat) (v : Array Value) (t : TypeId) (fr : Nat × Nat), X.heap[k]? = some (.cells v t fr) → t ≠ 72 → t ≠ 9 → t ≠ 122 → Y.heap[k]? = some (.cells v t fr)
theorem Kn.refl (B : Nat) (X : World) : Kn B X X := ⟨rfl, rfl, rfl, Nat.le_refl _, fun _ _ => rfl, fun _ _ _ _ h _ _ _ => h⟩
theorem Kn.trans {B : Nat} {X Y Z : World} (h : Kn B X Y) (k : Kn B Y Z) : Kn B X Z := ⟨k.os.trans h.os, k.tape.trans h.tape, k.output.trans h.output, Nat.le_trans h.size k.size, fun i hi => (k.low i hi).trans (h.low i hi), fun i v t fr hi h1 h2 h3 => k.cells i v t fr (h.cells i v t fr hi h1 h2 h3) h1 h2 h3⟩
theorem Kn.of_below {B : Nat} {X Y : World} (h : Below X.heap.size X Y) (hB : B ≤ X.heap.size) : Kn B X Y := ⟨h.os, h.tape, h.output, h.size, fun k hk => h.block k (by omega), fun k v t fr hk _ _ _ => (h.block k (Array.getElem?_eq_some_iff.1 hk).1).trans hk⟩
theorem Kn.below {B : Nat} {X Y : World} (h : Kn B X Y) : Below B X Y := ⟨h.os, h.tape, h.output, h.size, h.low⟩
theorem Kn.boxed {B A : Nat} {X Y : World} {t : TypeId} {v : Value} (h : Kn B X Y) (hb : Boxed X A t v) (h1 : t ≠ 72) (h2 : t ≠ 9) (h3 : t ≠ 122) : Boxed Y A t v := h.cells _ _ _ _ hb h1 h2 h3
theorem NfB.lt {w : World} {B N : Nat} {sv lv : Value} {s : NS} {la : Nat} {em : Bool} (h : NfB w B N sv lv s la em) : N < w.heap.size := (Array.getElem?_eq_some_iff.1 h.blk).1
theorem NfB.bel {w w' : World} {B N : Nat} {sv lv : Value} {s : NS} {la : Nat} {em : Bool} (h : NfB w B N sv lv s la em) (hb : Below w.heap.size w w') : NfB w' B N sv lv s la em :=
  ⟨(hb.block _ h.lt).trans h.blk, own_bel h.row hb, h.low, h.pos⟩
theorem NfB.rel {w w' : World} {B C N : Nat} {sv lv : Value} {s : NS} {la : Nat} {em : Bool} (h : NfB w B N sv lv s la em) (hr : Rel C w w') : NfB w' B N sv lv s la em :=
  ⟨hr.cells h.blk (by decide), hr.row h.row (by decide), h.low, h.pos⟩
theorem heap_set {W : World} {N k : Nat} {l : List Value} {t : TypeId} {fr : Nat × Nat} (h : W.heap[N]? = some (.cells l.toArray t fr)) (v : Value) : (W.setCell ⟨N, k, none⟩ v).heap[N]? = some (.cells (l.set k v).toArray t fr) := by
  simp [World.setCell, Array.getElem?_modify, h]
theorem NfB.fol {w : World} {B N : Nat} {sv lv : Value} {s : NS} {la : Nat} {em : Bool} (h : NfB w B N sv lv s la em) {p : Nat} (hp : p < 25) : w.cell? ⟨N, 2 + p, none⟩ = some (.int .u32 (s.fol p)) := by
  rw [cell_of_row _ _ _ _ _ _ h.blk, List.getElem?_toArray]
  exact nfC_fol _ _ _ _ _ hp
theorem NfB.frz {w : World} {B N : Nat} {sv lv : Value} {s : NS} {la : Nat} {em : Bool} (h : NfB w B N sv lv s la em) (k : Nat) : w.frozen? ⟨N, k, none⟩ = false := by simp [World.frozen?, h.blk]
theorem NfB.set {w : World} {B N : Nat} {sv lv : Value} {s : NS} {la : Nat} {em : Bool} (h : NfB w B N sv lv s la em) {p : Nat} (hp : p < 25) (fo' : Nat → Nat) (ho : ∀ q, q ≠ p → fo' q = s.fol q) :
    NfB (w.setCell ⟨N, 2 + p, none⟩ (.int .u32 (fo' p))) B N sv lv ⟨s.labs, fo'⟩ la em := by
  refine ⟨?_, ownsRow_setCell_other h.row (a := ⟨N, 2 + p, none⟩) (fun e => ?_) _, h.low, h.pos⟩
  · rw [heap_set h.blk, nfC_set _ _ _ _ _ _ hp ho]
  · rcases h.row.2 with ⟨he, _⟩ | ⟨g, cap, cur, he, _, hgg, _⟩
    · rw [he] at e; cases e
    · rw [he] at e
      injection e with e
      subst e
      rw [h.blk] at hgg
      injection hgg with hgg
      injection hgg with _ hgg _
      cases hgg
theorem Kn.set {w : World} {B N k : Nat} {a : Array Value} {t : TypeId} {fr : Nat × Nat} (h : w.heap[N]? = some (.cells a t fr)) (ht : t = 72 ∨ t = 9) (hB : B ≤ N) (v : Value) : Kn B w (w.setCell ⟨N, k, none⟩ v) := by
  refine ⟨rfl, rfl, rfl, by simp, fun j hj => Below.heap_setCell _ _ _ _ (by show j ≠ N; omega), fun j v' t' fr' hj h1 h2 _ => (Below.heap_setCell _ _ _ _ (fun e => ?_)).trans hj⟩
  obtain rfl : j = N := e
  rw [h] at hj
  injection hj with hj
  injection hj with _ hj _
  subst hj
  rcases ht with ht | ht
  · exact h1 ht
  · exact h2 ht

/-- some of a row are followed by others -/
def lnkL (fo : Nat → Nat) (l : List Nat) (tt : Nat) : Nat → Nat := fun p => if p ∈ l then fo p ||| tt else fo p
theorem lnkL_nil (fo : Nat → Nat) (tt : Nat) : lnkL fo [] tt = fo := by funext p; simp [lnkL]
theorem lnkL_snoc (fo : Nat → Nat) (l : List Nat) (p tt : Nat) : lnkL fo (l ++ [p]) tt p = lnkL fo l tt p ||| tt := by
  unfold lnkL
  rw [if_pos (by simp)]
  split
  · rw [Nat.or_assoc, Nat.or_self]
  · rfl
theorem lnkL_other (fo : Nat → Nat) (l : List Nat) (p tt q : Nat) (h : q ≠ p) : lnkL fo (l ++ [p]) tt q = lnkL fo l tt q := by
  unfold lnkL
  simp [h]
theorem lnkL_els (fo : Nat → Nat) {fr : Nat} (h : fr < 2 ^ 32) (tt : Nat) : lnkL fo (els fr) tt = lnk fo fr tt := by
  funext p
  unfold lnkL lnk
  by_cases hp : fr.testBit p = true
  · rw [if_pos hp, if_pos]
    exact mem_els.2 ⟨Nat.lt_of_not_le fun hge => (by rw [bit_false h hge] at hp; cases hp), hp⟩
  · rw [if_neg hp, if_neg]
    exact fun hm => hp (mem_els.1 hm).2
theorem lnkL_lt {fo : Nat → Nat} {l : List Nat} {tt : Nat} (h : ∀ p, fo p < 2 ^ 32) (ht : tt < 2 ^ 32) (p : Nat) : lnkL fo l tt p < 2 ^ 32 := by
  unfold lnkL
  split
  · exact Nat.or_lt_two_pow (h p) ht
  · exact h p

set_option maxRecDepth 100000 in
set_option maxHeartbeats 4000000 in
theorem link_any {w : World} {B N : Nat} {sv lv : Value} {s : NS} {la : Nat} {em : Bool} (h : NfB w B N sv lv s la em) (hT : Tb w) (hBw : B ≤ w.heap.size) {fr tt : Nat} (hfr : fr < 2 ^ 25) (hto : tt < 2 ^ 32) (hfo : ∀ p, s.fol p < 2 ^ 32) :
    Calls Tryd.prog 44 #[.pointer (some ⟨N, 0, none⟩), .int .u32 fr, .int .u32 tt] w fun e w' => e = .returned (.tuple #[]) ∧ NfB w' B N sv lv ⟨s.labs, lnk s.fol fr tt⟩ la em ∧ Kn B w w' := by
  refine (callsIn_wide (n := 12)).1 ?_
  refine callsIn_of_wp_marks Tryd.func44 rfl trivial ?_ rfl
  simp only [Tryd.ntmps44, List.size_toArray, List.length_cons, List.length_nil, Nat.reduceAdd, Nat.reduceSub, Array.replicate_succ, Array.replicate_zero, List.push_toArray, List.append_toArray, List.nil_append, List.cons_append]
  refine wpIn_wide.2 ?_
  go_wp2_with (go_at_call 68; refine (rising_any fr _).mono ?_; rintro e w1 ⟨rfl, rfl⟩)
  have hb1 : Below w.heap.size w (((w.alloc (.cells #[.pointer (some ⟨N, 0, none⟩)] 29)).alloc (.cells #[.int .u32 tt] 69)).alloc (.cells #[.int .u32 fr] 69)) := (((Below.refl _ w).alloc (Nat.le_refl _) _).alloc (by simp) _).alloc (by simp; omega) _
  have hx0 : Boxed (((w.alloc (.cells #[.pointer (some ⟨N, 0, none⟩)] 29)).alloc (.cells #[.int .u32 tt] 69)).alloc (.cells #[.int .u32 fr] 69)) w.heap.size 29 (.pointer (some ⟨N, 0, none⟩)) := ((Boxed.new w _ _).alloc _).alloc _
  have hx1 : Boxed (((w.alloc (.cells #[.pointer (some ⟨N, 0, none⟩)] 29)).alloc (.cells #[.int .u32 tt] 69)).alloc (.cells #[.int .u32 fr] 69)) (w.heap.size + 1) 69 (.int .u32 tt) := by
    have h := Boxed.new (w.alloc (.cells #[.pointer (some ⟨N, 0, none⟩)] 29)) 69 (.int .u32 tt)
    rw [World.size_alloc] at h
    exact h.alloc _
  have hx2 : Boxed (((w.alloc (.cells #[.pointer (some ⟨N, 0, none⟩)] 29)).alloc (.cells #[.int .u32 tt] 69)).alloc (.cells #[.int .u32 fr] 69)) (w.heap.size + 1 + 1) 69 (.int .u32 fr) := by
    have h := Boxed.new ((w.alloc (.cells #[.pointer (some ⟨N, 0, none⟩)] 29)).alloc (.cells #[.int .u32 tt] 69)) 69 (.int .u32 fr)
    rwa [World.size_alloc, World.size_alloc] at h
  generalize hW1 : ((w.alloc (.cells #[.pointer (some ⟨N, 0, none⟩)] 29)).alloc (.cells #[.int .u32 tt] 69)).alloc (.cells #[.int .u32 fr] 69) = w1 at *
  have hz1 : w1.heap.size = w.heap.size + 3 := by rw [← hW1]; simp
  have hfr32 : fr < 2 ^ 32 := Nat.lt_of_lt_of_le hfr (by decide)
  have hseq := rising_seq 11 (by decide) hx2 (hT.below hb1 hT.pos) hfr32
  have HSEQ := Lib.hid hseq
  have HT1 := Lib.hid (hT.below hb1 hT.pos)
  have HN1 := Lib.hid (h.bel hb1)
  have HK1 := Lib.hid (Kn.of_below hb1 hBw)
  have HFO := Lib.hid hfo
  have HEL := Lib.hid (lnkL_els s.fol hfr32 tt)
  have hpos := h.pos
  have hlow := h.low
  clear hseq hT h hfo hx2 hW1
  refine wpIn_wide.1 (?_ : Code.wpIn Fence.wide 12 Tryd.prog _ _ _ _)
  refine wpIn_rangeFunc_X rfl (by omega) (gf := 84) (lb := #[.pointer (some ⟨w.heap.size + 1 + 1, 0, none⟩)]) rfl trivial (enters_of Tryd.func84 (by kernel_rfl) rfl)
    HSEQ.out KpT.trans (fun W' l' o o' hlw hl' ho _ => KpT.put (by omega)) (Below.refl _ _) (fun _ => rfl)
    (fun pre W' => Boxed W' w.heap.size 29 (.pointer (some ⟨N, 0, none⟩)) ∧ Boxed W' (w.heap.size + 1) 69 (.int .u32 tt) ∧ NfB W' B N sv lv ⟨s.labs, lnkL s.fol pre tt⟩ la em ∧ Kn B w W' ∧ w1.heap.size ≤ W'.heap.size ∧ Tb W')
    (fun _ _ _ => False)
    ?hI (fun c s X Y h => h.elim)
    ⟨hx0, hx1, by rw [lnkL_nil]; exact HN1.out, HK1.out, Nat.le_refl _, HT1.out⟩
    (fun p a' W' => a' = { tmps := #[.pointer (some ⟨N, 0, none⟩), .int .u32 fr, .int .u32 tt, .pointer (some ⟨w.heap.size, 0, none⟩), undef, .pointer (some ⟨w.heap.size + 1, 0, none⟩), .int .i64 p, .int .u32 fr, .func (.func 84) #[] #[.pointer (some ⟨w.heap.size + 1 + 1, 0, none⟩)], .int .i64 p, undef, undef, undef, undef, undef, undef, undef, undef, undef, undef, undef], defers := [] })
    (fun _ _ _ _ _ h _ => h) ?assign ?body ?done (fun _ _ _ _ _ _ h _ => h.elim)
  case hI =>
    rintro pre X Y ⟨h1, h2, h3, h4, h5, h6⟩ hr
    exact ⟨hr.cells h1 (by decide), hr.cells h2 (by decide), h3.rel hr, h4.trans ⟨hr.os, hr.tape, hr.output, hr.size, fun k hk => hr.block k (by have := h4.size; omega) (.inl (by omega)), fun k v t fr hk h1 h2 h3 => hr.cells hk h3⟩, Nat.le_trans h5 hr.size, h6.low (hr.block 0 h6.pos (.inl (by omega)))⟩
  case assign =>
    intro l1 pre p W' K hI hpx hK
    have HK := Lib.hid hK
    have HI' := Lib.hid hI
    unfold encN
    clear hK hI
    gi_wp2
    exact HK.out _ _ (KeepsFrom.refl _ _) (fun h => h) HI'.out rfl
  case body =>
    rintro l1 pre p a' W hwl hloop hpx ⟨h1, h2, h3, h4, h5, h6⟩ rfl
    have hp : p < 25 := by
      have hm : p ∈ els fr := hpx.subset (by simp)
      exact Nat.lt_of_not_le fun hge => by
        have := (mem_els.1 hm).2
        rw [bit_false hfr hge] at this
        cases this
    have hor := u32_or (lnkL s.fol pre tt p) tt (lnkL_lt HFO.out hto p) hto
    rw [← lnkL_snoc] at hor
    have c1 := h1.cell
    have c2 := h2.cell
    have c3 := h3.fol hp
    have f3 := h3.frz (2 + p)
    have R := Lib.hid (And.intro h3 (And.intro h4 (And.intro h5 h6)))
    have HX := Lib.hid (And.intro h1 h2)
    simp only at c3
    generalize lnkL s.fol pre tt p = F at *
    clear h1 h2 h3 h4 h5 h6
    have hcell : W.drew.cell? ⟨N, 2 + p, none⟩ = some (.int .u32 F) := c3
    have S0 := Lib.hid (show W.drew.cell? ⟨w.heap.size, 0, none⟩ = some (.pointer (some ⟨N, 0, none⟩)) ∧ W.drew.cell? ⟨w.heap.size + 1, 0, none⟩ = some (.int .u32 tt) from ⟨c1, c2⟩)
    have C3 := Lib.hid hcell
    have F3 := Lib.hid (show W.drew.frozen? ⟨N, 2 + p, none⟩ = false from f3)
    have HOR := Lib.hid hor
    have HG := Lib.hid (lnkL_other s.fol pre p tt)
    have hnw : N ≠ w.heap.size := by rintro rfl; exact absurd (R.out.1.blk.symm.trans HX.out.1) (by simp)
    have hnw1 : N ≠ w.heap.size + 1 := by rintro rfl; exact absurd (R.out.1.blk.symm.trans HX.out.2) (by simp)
    have hdr : Below W.heap.size W W.drew := (Below.refl _ _).drew
    have hfin : NfB (W.drew.setCell ⟨N, 2 + p, none⟩ (.int .u32 ((lnkL s.fol (pre ++ [p]) tt p : Nat) : Int))) B N sv lv ⟨s.labs, lnkL s.fol (pre ++ [p]) tt⟩ la em := (R.out.1.bel hdr).set hp _ HG.out
    have hk : Kn B W.drew (W.drew.setCell ⟨N, 2 + p, none⟩ (.int .u32 ((lnkL s.fol (pre ++ [p]) tt p : Nat) : Int))) := Kn.set (R.out.1.bel hdr).blk (.inl rfl) hlow _
    have hkk := (Kn.of_below hdr (Nat.le_trans hBw (by have := R.out.2.1.size; exact this))).trans hk
    have b1 := hkk.boxed HX.out.1 (by decide) (by decide) (by decide)
    have b2 := hkk.boxed HX.out.2 (by decide) (by decide) (by decide)
    generalize hG : lnkL s.fol (pre ++ [p]) tt p = G at *
    have S1 := Lib.hid (And.intro b1.cell b2.cell)
    have FIN := Lib.hid (show KeepsFrom w1.heap.size W (W.drew.setCell ⟨N, 2 + p, none⟩ (.int .u32 (G : Int))) ∧ KpT W (W.drew.setCell ⟨N, 2 + p, none⟩ (.int .u32 (G : Int))) ∧ Boxed (W.drew.setCell ⟨N, 2 + p, none⟩ (.int .u32 (G : Int))) w.heap.size 29 (.pointer (some ⟨N, 0, none⟩)) ∧ Boxed (W.drew.setCell ⟨N, 2 + p, none⟩ (.int .u32 (G : Int))) (w.heap.size + 1) 69 (.int .u32 tt) ∧ NfB (W.drew.setCell ⟨N, 2 + p, none⟩ (.int .u32 (G : Int))) B N sv lv ⟨s.labs, lnkL s.fol (pre ++ [p]) tt⟩ la em ∧ Kn B w (W.drew.setCell ⟨N, 2 + p, none⟩ (.int .u32 (G : Int))) ∧ w1.heap.size ≤ (W.drew.setCell ⟨N, 2 + p, none⟩ (.int .u32 (G : Int))).heap.size ∧ Tb (W.drew.setCell ⟨N, 2 + p, none⟩ (.int .u32 (G : Int)))
      from ⟨((below_others hdr).from _).trans ((KeepsOthers.setCell W.drew _ _).from _), fun h => h.low (hkk.low 0 hpos), b1, b2, hfin, R.out.2.1.trans hkk, by simpa using R.out.2.2.1, R.out.2.2.2.low (hkk.low 0 hpos)⟩)
    clear hcell c1 c2 c3 f3 hor hfin hk hkk b1 b2 hnw hnw1 hdr
    gi_wp2
    refine wpIn_round_held (S := fun w' => w'.cell? ⟨w.heap.size, 0, none⟩ = some (.pointer (some ⟨N, 0, none⟩)) ∧ w'.cell? ⟨w.heap.size + 1, 0, none⟩ = some (.int .u32 tt)) (by kernel_rfl) (by kernel_rfl) (fun ⟨_, _, h⟩ => h) S0.out (fun _ => ?_)
    refine wpAnyH_take (i := 0) (v := .pointer (some ⟨N, 0, none⟩)) rfl (by kernel_rfl) (by kernel_rfl) (by kernel_rfl) (fun _ _ _ h => h) (Or.inl ⟨by rfl, ?_⟩) S0.out ?_
    · intro w hSw
      obtain ⟨hs0, hs1⟩ := hSw
      go_simp
    try simp only [Act.put, z4, z5, z6]
    refine wpAnyH_take (i := 1) (v := .int .i64 p) rfl (by kernel_rfl) (by kernel_rfl) (by kernel_rfl) (fun _ _ _ h => h) (Or.inl ⟨by rfl, ?_⟩) S0.out ?_
    · intro w hSw
      obtain ⟨hs0, hs1⟩ := hSw
      go_simp
    try simp only [Act.put, z4, z5, z6]
    refine wpAnyH_take (i := 2) (v := .pointer (some ⟨N, 0, none⟩)) rfl (by kernel_rfl) (by kernel_rfl) (by kernel_rfl) (fun _ _ _ h => h) (Or.inl ⟨by rfl, ?_⟩) S0.out ?_
    · intro w hSw
      obtain ⟨hs0, hs1⟩ := hSw
      go_simp
    try simp only [Act.put, z4, z5, z6]
    refine wpAnyH_take (i := 3) (v := .pointer (some ⟨N, 2, none⟩)) rfl (by kernel_rfl) (by kernel_rfl) (by kernel_rfl) (fun _ _ _ h => h) (Or.inl ⟨by rfl, ?_⟩) S0.out ?_
    · intro w hSw
      obtain ⟨hs0, hs1⟩ := hSw
      go_simp
    try simp only [Act.put, z4, z5, z6]
    refine wpAnyH_take (i := 4) (v := .pointer (some ⟨N, 2 + p, none⟩)) rfl (by kernel_rfl) (by kernel_rfl) (by kernel_rfl) (fun _ _ _ h => h) (Or.inl ⟨by rfl, ?_⟩) S0.out ?_
    · intro w hSw
      obtain ⟨hs0, hs1⟩ := hSw
      go_simp
      intro hge
      omega
    try simp only [Act.put, z4, z5, z6]
    refine wpAnyH_take (i := 6) (v := .int .u32 tt) rfl (by kernel_rfl) (by kernel_rfl) (by kernel_rfl) (fun _ _ _ h => h) (Or.inl ⟨by rfl, ?_⟩) S0.out ?_
    · intro w hSw
      obtain ⟨hs0, hs1⟩ := hSw
      go_simp
    try simp only [Act.put, z4, z5, z6]
    refine wpAnyH_take (i := 8) (v := .pointer (some ⟨N, 0, none⟩)) rfl (by kernel_rfl) (by kernel_rfl) (by kernel_rfl) (fun _ _ _ h => h) (Or.inl ⟨by rfl, ?_⟩) S0.out ?_
    · intro w hSw
      obtain ⟨hs0, hs1⟩ := hSw
      go_simp
    try simp only [Act.put, z4, z5, z6]
    refine wpAnyH_take (i := 9) (v := .pointer (some ⟨N, 2, none⟩)) rfl (by kernel_rfl) (by kernel_rfl) (by kernel_rfl) (fun _ _ _ h => h) (Or.inl ⟨by rfl, ?_⟩) S0.out ?_
    · intro w hSw
      obtain ⟨hs0, hs1⟩ := hSw
      go_simp
    try simp only [Act.put, z4, z5, z6]
    refine wpAnyH_ready (rs := [5]) (by kernel_rfl) (by simp) ?_
    refine AllReadyH.cons rfl (fun K hK => ?_) AllReadyH.nil
    have c3 := C3.out
    go_simp
    refine hK.out _ _ S0.out (fun _ => ?_)
    clear hK
    try simp only [Act.put, z4, z5, z6]
    refine wpAnyH_take (i := 7) (v := .int .u32 (G : Nat)) rfl (by kernel_rfl) (by kernel_rfl) (by kernel_rfl) (fun _ _ _ h => h) (Or.inl ⟨by rfl, ?_⟩) S0.out ?_
    · intro w hSw
      obtain ⟨hs0, hs1⟩ := hSw
      have hor := HOR.out
      go_simp
    try simp only [Act.put, z4, z5, z6]
    refine wpAnyH_take (i := 10) (v := .pointer (some ⟨N, 2 + p, none⟩)) rfl (by kernel_rfl) (by kernel_rfl) (by kernel_rfl) (fun _ _ _ h => h) (Or.inl ⟨by rfl, ?_⟩) S0.out ?_
    · intro w hSw
      obtain ⟨hs0, hs1⟩ := hSw
      go_simp
      intro hge
      omega
    try simp only [Act.put, z4, z5, z6]
    refine wpAnyH_ready (rs := [11]) (by kernel_rfl) (by simp) ?_
    refine AllReadyH.cons rfl (fun K hK => ?_) AllReadyH.nil
    have f3 := F3.out
    have c3 := C3.out
    go_simp
    refine hK.out _ _ S1.out (fun _ => ?_)
    clear hK
    try simp only [Act.put, z4, z5, z6]
    refine ⟨by kernel_rfl, ?_⟩
    exact FIN.out
  case done =>
    rintro D W hD ⟨h1, h2, h3, h4, h5, h6⟩ hK
    rw [HEL.out] at h3
    have R := Lib.hid (And.intro h3 h4)
    clear h1 h2 h3 h4 h6
    go_wp2_with fail
    refine ⟨by simp, .inl ⟨_, _, rfl, run_takeDeferred hK, ?_⟩⟩
    refine ⟨.tuple #[], results_none rfl _ _ _, rfl, ?_⟩
    have hr : Rel w1.heap.size W (W.putObj D (.deferred none)) := Rel.grown (grownBy_putObj' W D (.deferred none)) fun r e => by cases e; exact ⟨hD, _, hK, .inl rfl⟩
    exact ⟨R.out.1.rel hr, R.out.2.trans ⟨hr.os, hr.tape, hr.output, hr.size, fun k hk => hr.block k (by have := R.out.2.size; omega) (.inl (by omega)), fun k v t fr hk h1 h2 h3 => hr.cells hk h3⟩⟩
end Go.Proofs.YtnccgaanfjaimaaDoor

namespace Go.Proofs.YtnccgaanfjaimaaDoor
open Go.ChangeShapes Go.WideShapes Go.ChangeAt Go.RowKit Go.Maps
set_option linter.unusedVariables false
set_option linter.unusedSimpArgs false

theorem info5 : (Tryd.prog.info? 5).map (fun i => (i.zero, i.size, i.bytes)) = some (some (.int .u8 0), 1, 1) := by kernel_rfl
theorem info9 : (Tryd.prog.info? 9).map (fun i => (i.zero, i.size, i.bytes)) = some (some (.string ⟨#[]⟩), 1, 16) := by kernel_rfl
set_option maxHeartbeats 4000000 in
set_option maxRecDepth 100000 in
theorem clone_in (s : ByteArray) (w : World) (hlim : s.size ≤ 140737488355328) :
    Calls Tryd.prog 100 #[.string s] w fun e w' => e = .returned (.string s) ∧ Below w.heap.size w w' := by
  by_cases h0 : s.size = 0
  · obtain rfl : s = ⟨#[]⟩ := ByteArray.ext (Array.eq_empty_of_size_eq_zero h0)
    clear h0 hlim
    go_enter Tryd.func100, Tryd.ntmps100
    go_wp2
    go_ret
    exact ⟨rfl, Below.refl _ _⟩
  · obtain ⟨i0, hi, hz0, hz1, hz2⟩ := info_parts info5
    have hinfo : (Tryd.prog.info? 5).map (·.size) = some 1 := by rw [hi]; simp [hz1]
    have hco : Tryd.prog.cellsOf 5 = 1 := by simp [Program.cellsOf, hi, hz1]
    obtain ⟨M, hM⟩ : ∃ M, M = madeCells (Value.int .u8 0).cells (((s.size : Nat) : Int).toNat * i0.size) := ⟨_, rfl⟩
    have hMs : M.size = s.size := by rw [hM, size_madeCells, hz1]; simp
    have hmk : ∀ W : World, (Instr.makeSlice 104 (.int .i64 (s.size : Int)) (.int .i64 (s.size : Int))).run Tryd.prog W = .ok (.slice (some ⟨W.heap.size, 0, none⟩) s.size s.size) (W.alloc (.cells M 5)) := fun W => by
      have h := run_make (P := Tryd.prog) W 104 5 i0 (.int .u8 0) Tryd.underlying104 hi hz0 .i64 .i64 (s.size : Int) (s.size : Int) (by omega) (by omega) (by rw [hz2]; omega) (by omega)
      rw [← hM] at h
      simpa using h
    clear hM
    have hcp := Lib.run_copy_row_string (P := Tryd.prog) (w.alloc (.cells M 5)) 104 9 3 5 w.heap.size 0 s.size s.size s M 5 Tryd.underlying104 hinfo (heap_alloc_new w _) (Nat.le_refl _) (by omega)
    obtain ⟨Y, hY⟩ : ∃ Y, Y = (M.toList.take 0 ++ Lib.byteCells s.data.toList ++ M.toList.drop (0 + s.size)).toArray := ⟨_, rfl⟩
    rw [← hY] at hcp
    have hYl : Y.toList = Lib.byteCells s.data.toList := by
      rw [hY, List.toList_toArray, List.take_zero, List.nil_append, List.drop_of_length_le (by rw [Array.length_toList]; omega), List.append_nil]
    have hYs : Y.size = s.size := by rw [← Array.length_toList, hYl, Lib.byteCells_length, ← Lib.size_eq]
    have hgY : ((w.alloc (.cells M 5)).setRow w.heap.size Y).heap[w.heap.size]? = some (.cells Y 5 (0, 0)) := setRow_heap _ _ M _ 5 (0, 0) (heap_alloc_new w _)
    have hne : s.data.toList ≠ [] := fun e => h0 (by rw [Lib.size_eq, e]; rfl)
    have hUS := Lib.run_unsafeString_row (P := Tryd.prog) ((w.alloc (.cells M 5)).setRow w.heap.size Y) 132 3 9 5 Tryd.underlying132 hco w.heap.size Y.size (by unfold World.shape?; rw [hgY]) s.data.toList hne (by rw [← Lib.size_eq]; omega) (by rw [← Lib.size_eq]; omega)
      (fun j x hx => Lib.cells_of_row hgY Y.size j _ (by rw [List.take_of_length_le (by rw [Array.length_toList]; exact Nat.le_refl _), hYl]; simp [Lib.byteCells, hx]))
    rw [← Lib.size_eq] at hUS
    clear hY
    go_enter Tryd.func100, Tryd.ntmps100
    go_wp2
    go_ret
    have hb1 : Below w.heap.size w (w.alloc (.cells M 5)) := (Below.refl _ w).alloc (Nat.le_refl _) _
    have hb2 : Below w.heap.size (w.alloc (.cells M 5)) ((w.alloc (.cells M 5)).setRow w.heap.size Y) := ⟨rfl, rfl, rfl, by simp, fun k hk => setRow_other _ _ _ _ (by omega)⟩
    exact ⟨rfl, Lib.below_freeze (hb1.trans hb2) (p := ⟨w.heap.size, 0, none⟩) (Nat.le_refl _) _⟩

theorem clone_any (s : ByteArray) (w : World) (hlim : s.size ≤ 140737488355328) :
    Calls Tryd.prog 83 #[.string s] w fun e w' => e = .returned (.string s) ∧ Below w.heap.size w w' := by
  go_enter Tryd.func83, Tryd.ntmps83
  go_wp2_with (go_at_call 100; refine (clone_in s _ hlim).mono ?_; rintro e w' ⟨rfl, hb⟩)
  go_ret
  exact ⟨rfl, hb⟩
end Go.Proofs.YtnccgaanfjaimaaDoor

namespace Go.Proofs.YtnccgaanfjaimaaDoor
open Go.ChangeShapes Go.WideShapes Go.ChangeAt Go.RowKit
set_option linter.unusedVariables false
set_option linter.unusedSimpArgs false

attribute [local go_sem] Oper.semAt_some

theorem szL_step {xs : List X} {k : Nat} (h : k < xs.length) : szL (xs.take (k + 1)) = szL (xs.take k) + xs[k].sz := by
  rw [List.take_succ_eq_append_getElem h, szL_app, szL_one]

/-- a box of an expression, and what lies behind its kids, in all worlds to come -/
theorem boxed_kids {N : Nat} {w W0 : World} {k : Int} {l : ByteArray} {A : Option Addr} {n c : Nat} {xs : List X} (hW0 : w.alloc (.cells #[.int .i64 k, .string l, .slice A n c] 25) = W0) (hx : XR N w (.slice A n c) xs) (hN : N ≤ w.heap.size) :
    Below w.heap.size w W0 ∧ W0.heap.size = w.heap.size + 1 ∧ (∀ W, Below W0.heap.size W0 W → W.cell? ⟨w.heap.size, 0, none⟩ = some (.int .i64 k) ∧ W.cell? ⟨w.heap.size, 1, none⟩ = some (.string l) ∧ W.cell? ⟨w.heap.size, 2, none⟩ = some (.slice A n c)) ∧ ∀ W, Below W0.heap.size W0 W → XR N W (.slice A n c) xs := by
  subst hW0
  have hb0 : Below w.heap.size w (w.alloc (.cells #[.int .i64 k, .string l, .slice A n c] 25)) := (Below.refl _ w).alloc (Nat.le_refl _) _
  refine ⟨hb0, by simp, fun W h => box3 ((h.block _ (by simp)).trans (at_push _ _)), fun W h => hx.bel ((hb0.mono hN).trans (h.mono (by simp; omega)))⟩

def S15 (x : X) : Prop := ∀ (N : Nat) (w : World) (v : Value), XV N w v x → N ≤ w.heap.size → Calls Tryd.prog 69 #[v] w fun e w' => e = .returned (.int .i64 x.sz) ∧ Below w.heap.size w w'

set_option maxRecDepth 100000 in
set_option maxHeartbeats 4000000 in
theorem rsize_any : ∀ x : X, x.sz ≤ 100000 → S15 x := by
  intro x
  induction x using X.ind' with
  | h x ih =>
    intro hsz N w v hx hN
    obtain ⟨kx, rfl, hkx⟩ := hx
    obtain ⟨A, c, rfl⟩ := hkx.form
    obtain ⟨n, hn⟩ : ∃ n, x.kids.length = n := ⟨_, rfl⟩
    rw [hn] at hkx ⊢
    generalize x.kind = kd
    generalize x.lab = lb
    obtain ⟨W0, hW0⟩ : ∃ W0, w.alloc (.cells #[.int .i64 kd, .string lb, .slice A n c] 25) = W0 := ⟨_, rfl⟩
    obtain ⟨hb0, hz0, hbx, hkd⟩ := boxed_kids hW0 hkx hN
    have HB0 := Lib.hid hb0
    have HBX := Lib.hid hbx
    have HKD := Lib.hid hkd
    have HSZ := Lib.hid (show x.sz = 1 + szL x.kids from x.sz_eq)
    have hle : szL x.kids ≤ 100000 := by have := x.sz_eq; omega
    obtain ⟨ks, hks⟩ : ∃ ks, x.kids = ks := ⟨_, rfl⟩
    rw [hks] at HKD HSZ hle hn ih
    have HIH := Lib.hid (fun y (hy : y ∈ ks) => ih y hy (by have := szL_mem hy; omega))
    have HN := Lib.hid hn
    have hn1 : n ≤ 100000 := by have := len_szL ks; omega
    clear hb0 hz0 hbx hkd hkx ih hn hks
    go_enter Tryd.func69, Tryd.ntmps69
    go_upto_region 3 with (fail)
    try rw [hW0]
    go_loopw [3, 4] (fun u3 u4 wr => ∃ k : Nat, k ≤ n ∧ u4 = .int .i64 k ∧ u3 = .int .i64 ((1 + szL (ks.take k) : Nat) : Int) ∧ Below W0.heap.size W0 wr) (fun _ u4 _ => n + 1 - (intOf u4).toNat)
    case atStart => exact ⟨0, Nat.zero_le _, rfl, by rw [List.take_zero, szL_nil]; rfl, Below.refl _ _⟩
    case round =>
      obtain ⟨k, hk, rfl, rfl, hbr⟩ := hrel
      obtain ⟨d0, d1, d2⟩ := HBX.out wr hbr
      have HBR := Lib.hid hbr
      by_cases hkn : k < n
      · have hki : (k : Int) < (n : Int) := by omega
        have hkl : k < ks.length := by have := HN.out; omega
        obtain ⟨ad, ky, e1, hbA, a0, a1, a2, hky⟩ := (HKD.out wr hbr).at3 hkl
        subst e1
        have hy15 := HIH.out ks[k] (List.getElem_mem _)
        have hst := szL_step hkl
        have hsz1 : szL (ks.take (k + 1)) ≤ 100000 := by
          have h1 : szL ks = szL (ks.take (k + 1)) + szL (ks.drop (k + 1)) := by rw [← szL_app, List.take_append_drop]
          omega
        obtain ⟨y, hy⟩ : ∃ y, ks[k] = y := ⟨_, rfl⟩
        rw [hy] at a0 a1 hky hy15 hst
        have HST := Lib.hid hst
        obtain ⟨q, hq⟩ : ∃ q, szL (ks.take k) = q := ⟨_, rfl⟩
        rw [hq] at HST ⊢
        obtain ⟨z, hz⟩ : ∃ z, y.sz = z := ⟨_, rfl⟩
        have hzq : q + z ≤ 100000 := by omega
        have HC := Lib.hid (hy15 N wr _ ⟨ky, rfl, hky⟩ (Nat.le_trans hN (Nat.le_trans HB0.out.size hbr.size)))
        rw [hz] at HC HST
        clear hbr hy15 hky hst hsz1 hy hq hz
        go_wp2_with (go_at_call 69; refine HC.out.mono ?_; rintro e w1 ⟨rfl, hq⟩; have HQ := Lib.hid hq; clear hq)
        go_roundw
        case rel => exact ⟨k + 1, by omega, by go_num, by rw [HST.out]; go_num, HBR.out.trans (HQ.out.mono HBR.out.size)⟩
        case measure => simp [intOf]; omega
      · have hki : ¬ (k : Int) < (n : Int) := by omega
        obtain rfl : n = k := by omega
        have HT := Lib.hid (show ks.take n = ks by rw [← HN.out]; exact List.take_length)
        go_wp2_with fail
        go_ret
        exact ⟨(ret_int (by rw [HT.out, HSZ.out]) : Ending.returned (.int .i64 ((1 + szL (ks.take n) : Nat) : Int)) = .returned (.int .i64 (x.sz : Nat))), HB0.out.trans (HBR.out.mono HB0.out.size)⟩

def X.okB (x : X) : Bool := x.parts.all X.fits
theorem all_partsL : ∀ ks : List X, (partsL ks).all X.fits = ks.all X.okB
  | [] => by rw [partsL_nil]; rfl
  | x :: ks => by rw [partsL_cons, List.all_append, all_partsL ks, List.all_cons]; rfl
theorem okB_eq (x : X) : x.okB = (x.fits && x.kids.all X.okB) := by
  unfold X.okB
  rw [X.parts_eq, List.all_cons, all_partsL]
  rfl
theorem right_eq (x : X) : x.right = (decide (x.sz ≤ 24) && x.okB) := rfl
theorem okB_good {x : X} : x.okB = true ↔ x.good := by
  unfold X.okB X.good
  rw [List.all_eq_true]

def S38 (x : X) : Prop := ∀ (N : Nat) (w : World) (v : Value), XV N w v x → N ≤ w.heap.size → Calls Tryd.prog 70 #[v] w fun e w' => e = .returned (.bool x.okB) ∧ Below w.heap.size w w'

theorem parts_of_mem : ∀ {xs : List X} {y p : X}, y ∈ xs → p ∈ y.parts → p ∈ partsL xs
  | x :: xs, y, p, hy, hp => by
    rw [partsL_cons]
    rcases List.mem_cons.1 hy with rfl | hy
    · exact List.mem_append_left _ hp
    · exact List.mem_append_right _ (parts_of_mem hy hp)
theorem lit_kids {x : X} (h : x.lit) : ∀ y ∈ x.kids, y.lit := fun y hy p hp => h p (by rw [X.parts_eq]; exact List.mem_cons_of_mem _ (parts_of_mem hy hp))

set_option maxRecDepth 100000 in
set_option maxHeartbeats 4000000 in
theorem rpart_any : ∀ x : X, x.sz ≤ 100000 → x.lit → S38 x := by
  intro x
  induction x using X.ind' with
  | h x ih =>
    intro hsz hlit N w v hx hN
    obtain ⟨kx, rfl, hkx⟩ := hx
    obtain ⟨A, c, rfl⟩ := hkx.form
    obtain ⟨n, hn⟩ : ∃ n, x.kids.length = n := ⟨_, rfl⟩
    have hok : x.okB = (fitB x.kind x.lab n && x.kids.all X.okB) := by rw [okB_eq, X.fits, hn]
    have hlab : x.lab.size ≤ maxLen := hlit x (by rw [X.parts_eq]; exact List.mem_cons_self)
    rw [hok]
    rw [hn] at hkx ⊢
    have hle : szL x.kids ≤ 100000 := by have := x.sz_eq; omega
    have hlk := lit_kids hlit
    clear hok hlit
    generalize x.kind = kd at *
    generalize x.lab = lb at *
    obtain ⟨W0, hW0⟩ : ∃ W0, w.alloc (.cells #[.int .i64 kd, .string lb, .slice A n c] 25) = W0 := ⟨_, rfl⟩
    obtain ⟨hb0, hz0, hbx, hkd⟩ := boxed_kids hW0 hkx hN
    have HB0 := Lib.hid hb0
    have HBX := Lib.hid hbx
    have HKD := Lib.hid hkd
    obtain ⟨ks, hks⟩ : ∃ ks, x.kids = ks := ⟨_, rfl⟩
    rw [hks] at HKD hle hn ih hlk ⊢
    have HIH := Lib.hid (fun y (hy : y ∈ ks) => ih y hy (by have := szL_mem hy; omega) (hlk y hy))
    have HN := Lib.hid hn
    have hn1 : n ≤ 100000 := by have := len_szL ks; omega
    obtain ⟨d0, d1, d2⟩ := hbx W0 (Below.refl _ _)
    clear hb0 hz0 hbx hkd hkx ih hn hks hlk hle
    by_cases hk1 : kd = 1
    · subst hk1
      obtain ⟨f, hf⟩ : ∃ f, freB lb = f := ⟨_, rfl⟩
      have hfit : fitB 1 lb n = (f && decide (n = 0)) := by unfold fitB; rw [if_pos rfl, hf]
      rw [hfit]
      have HF := Lib.hid (fun W => rFree_any lb W hlab)
      rw [hf] at HF
      clear hf hfit
      cases f with
      | false =>
        go_enter Tryd.func70, Tryd.ntmps70
        go_upto_region 1 with (fail)
        try rw [hW0]
        go_wp2_with (go_at_call 86; refine (HF.out _).mono ?_; rintro e w1 ⟨rfl, rfl⟩)
        go_ret
        exact ⟨rfl, HB0.out⟩
      | true =>
        by_cases hn0 : n = 0
        · subst hn0
          go_enter Tryd.func70, Tryd.ntmps70
          go_upto_region 1 with (fail)
          try rw [hW0]
          go_wp2_with (go_at_call 86; refine (HF.out _).mono ?_; rintro e w1 ⟨rfl, rfl⟩)
          go_ret
          refine ⟨?_, HB0.out⟩
          obtain rfl : ks = [] := List.eq_nil_of_length_eq_zero HN.out
          rfl
        · have hni : ¬ (n : Int) = 0 := by omega
          have hnb : ((n : Int) == 0) = false := by simp; omega
          go_enter Tryd.func70, Tryd.ntmps70
          go_upto_region 1 with (fail)
          try rw [hW0]
          go_wp2_with (go_at_call 86; refine (HF.out _).mono ?_; rintro e w1 ⟨rfl, rfl⟩)
          go_ret
          refine ⟨?_, HB0.out⟩
          rw [decide_eq_false hn0]; rfl
    · have hkb1 : (kd == 1) = false := by simp [hk1]
      by_cases hk2 : kd = 2 ∨ kd = 3
      · by_cases hn2 : n < 2
        · have hfit : fitB kd lb n = false := by unfold fitB; rw [if_neg hk1, if_pos hk2, decide_eq_false (show ¬ 2 ≤ n by omega), Bool.and_false]
          rw [hfit]
          have hni : (n : Int) < 2 := by omega
          clear hfit
          rcases hk2 with rfl | rfl
          · go_enter Tryd.func70, Tryd.ntmps70
            go_upto_region 1 with (fail)
            try rw [hW0]
            go_wp2_with fail
            go_ret
            exact ⟨rfl, HB0.out⟩
          · go_enter Tryd.func70, Tryd.ntmps70
            go_upto_region 1 with (fail)
            try rw [hW0]
            go_wp2_with fail
            go_ret
            exact ⟨rfl, HB0.out⟩
        · obtain ⟨e, hfit, he⟩ : ∃ e, fitB kd lb n = e ∧ (e = true ↔ lb = ⟨#[]⟩) := ⟨_, rfl, by unfold fitB; rw [if_neg hk1, if_pos hk2, Bool.and_eq_true, decide_eq_true_iff, decide_eq_true_iff]; exact ⟨fun h => h.1, fun h => ⟨h, by omega⟩⟩⟩
          rw [hfit]
          have hni : ¬ (n : Int) < 2 := by omega
          have HE := Lib.hid he
          clear hfit he
          rcases hk2 with rfl | rfl
          · go_enter Tryd.func70, Tryd.ntmps70
            go_upto_region 1 with (fail)
            try rw [hW0]
            go_upto_region 15 with (fail)
            clear d0 d1 d2
            go_loopw [3] (fun u3 wr => ∃ k : Nat, k ≤ n ∧ u3 = .int .i64 k ∧ (ks.take k).all X.okB = true ∧ Below W0.heap.size W0 wr) (fun u3 _ => n + 1 - (intOf u3).toNat)
            case atStart => exact ⟨0, Nat.zero_le _, rfl, rfl, Below.refl _ _⟩
            case round =>
              obtain ⟨k, hk, rfl, hall, hbr⟩ := hrel
              obtain ⟨d0, d1, d2⟩ := HBX.out wr hbr
              have HBR := Lib.hid hbr
              have HALL := Lib.hid hall
              by_cases hkn : k < n
              · have hki : (k : Int) < (n : Int) := by omega
                have hkl : k < ks.length := by have := HN.out; omega
                obtain ⟨ad, ky, e1, hbA, a0, a1, a2, hky⟩ := (HKD.out wr hbr).at3 hkl
                subst e1
                have hy38 := HIH.out ks[k] (List.getElem_mem _)
                have hst : (ks.take (k + 1)).all X.okB = ((ks.take k).all X.okB && ks[k].okB) := by rw [List.take_succ_eq_append_getElem hkl, List.all_append]; simp
                have hmem := List.getElem_mem hkl
                obtain ⟨y, hy⟩ : ∃ y, ks[k] = y := ⟨_, rfl⟩
                rw [hy] at a0 a1 hky hy38 hst hmem
                have HST := Lib.hid (And.intro hst hmem)
                have HC := Lib.hid (hy38 N wr _ ⟨ky, rfl, hky⟩ (Nat.le_trans hN (Nat.le_trans HB0.out.size hbr.size)))
                obtain ⟨r, hr⟩ : ∃ r, y.okB = r := ⟨_, rfl⟩
                rw [hr] at HC
                have HR := Lib.hid hr
                clear hbr hy38 hky hst hy hr hmem hall
                cases r with
                | true =>
                  go_wp2_with (go_at_call 70; refine HC.out.mono ?_; rintro e w1 ⟨rfl, hq⟩; have HQ := Lib.hid hq; clear hq)
                  go_roundw
                  case rel => exact ⟨k + 1, by omega, by go_num, by rw [HST.out.1, HALL.out, HR.out]; rfl, HBR.out.trans (HQ.out.mono HBR.out.size)⟩
                  case measure => simp [intOf]; omega
                | false =>
                  go_wp2_with (go_at_call 70; refine HC.out.mono ?_; rintro e w1 ⟨rfl, hq⟩; have HQ := Lib.hid hq; clear hq)
                  go_ret
                  refine ⟨?_, HB0.out.trans ((HBR.out.trans (HQ.out.mono HBR.out.size)).mono HB0.out.size)⟩
                  rw [show ks.all X.okB = false from List.all_eq_false.2 ⟨y, HST.out.2, by rw [HR.out]; simp⟩, Bool.and_false]
                  rfl
              · have hki : ¬ (k : Int) < (n : Int) := by omega
                have HT := Lib.hid (show ks.take k = ks by rw [show k = n by omega, ← HN.out]; exact List.take_length)
                have HALL2 := Lib.hid (show ks.all X.okB = true by rw [← HT.out]; exact HALL.out)
                clear hall hbr
                by_cases hlb : lb = ⟨#[]⟩
                · obtain rfl : e = true := HE.out.2 hlb
                  subst hlb
                  go_wp2_with fail
                  go_ret
                  refine ⟨?_, HB0.out.trans (HBR.out.mono HB0.out.size)⟩
                  first
                    | rfl
                    | (rw [HALL2.out]; rfl)
                · obtain rfl : e = false := by
                    cases e with
                    | false => rfl
                    | true => exact absurd (HE.out.1 rfl) hlb
                  have hlt := tl_nil hlb
                  have hbe : (lb.toList == []) = false := by simp [hlt]
                  go_wp2_with fail
                  go_ret
                  refine ⟨?_, HB0.out.trans (HBR.out.mono HB0.out.size)⟩
                  first
                    | rfl
                    | (rw [HALL2.out]; rfl)
          · go_enter Tryd.func70, Tryd.ntmps70
            go_upto_region 1 with (fail)
            try rw [hW0]
            go_upto_region 15 with (fail)
            clear d0 d1 d2
            go_loopw [3] (fun u3 wr => ∃ k : Nat, k ≤ n ∧ u3 = .int .i64 k ∧ (ks.take k).all X.okB = true ∧ Below W0.heap.size W0 wr) (fun u3 _ => n + 1 - (intOf u3).toNat)
            case atStart => exact ⟨0, Nat.zero_le _, rfl, rfl, Below.refl _ _⟩
            case round =>
              obtain ⟨k, hk, rfl, hall, hbr⟩ := hrel
              obtain ⟨d0, d1, d2⟩ := HBX.out wr hbr
              have HBR := Lib.hid hbr
              have HALL := Lib.hid hall
              by_cases hkn : k < n
              · have hki : (k : Int) < (n : Int) := by omega
                have hkl : k < ks.length := by have := HN.out; omega
                obtain ⟨ad, ky, e1, hbA, a0, a1, a2, hky⟩ := (HKD.out wr hbr).at3 hkl
                subst e1
                have hy38 := HIH.out ks[k] (List.getElem_mem _)
                have hst : (ks.take (k + 1)).all X.okB = ((ks.take k).all X.okB && ks[k].okB) := by rw [List.take_succ_eq_append_getElem hkl, List.all_append]; simp
                have hmem := List.getElem_mem hkl
                obtain ⟨y, hy⟩ : ∃ y, ks[k] = y := ⟨_, rfl⟩
                rw [hy] at a0 a1 hky hy38 hst hmem
                have HST := Lib.hid (And.intro hst hmem)
                have HC := Lib.hid (hy38 N wr _ ⟨ky, rfl, hky⟩ (Nat.le_trans hN (Nat.le_trans HB0.out.size hbr.size)))
                obtain ⟨r, hr⟩ : ∃ r, y.okB = r := ⟨_, rfl⟩
                rw [hr] at HC
                have HR := Lib.hid hr
                clear hbr hy38 hky hst hy hr hmem hall
                cases r with
                | true =>
                  go_wp2_with (go_at_call 70; refine HC.out.mono ?_; rintro e w1 ⟨rfl, hq⟩; have HQ := Lib.hid hq; clear hq)
                  go_roundw
                  case rel => exact ⟨k + 1, by omega, by go_num, by rw [HST.out.1, HALL.out, HR.out]; rfl, HBR.out.trans (HQ.out.mono HBR.out.size)⟩
                  case measure => simp [intOf]; omega
                | false =>
                  go_wp2_with (go_at_call 70; refine HC.out.mono ?_; rintro e w1 ⟨rfl, hq⟩; have HQ := Lib.hid hq; clear hq)
                  go_ret
                  refine ⟨?_, HB0.out.trans ((HBR.out.trans (HQ.out.mono HBR.out.size)).mono HB0.out.size)⟩
                  rw [show ks.all X.okB = false from List.all_eq_false.2 ⟨y, HST.out.2, by rw [HR.out]; simp⟩, Bool.and_false]
                  rfl
              · have hki : ¬ (k : Int) < (n : Int) := by omega
                have HT := Lib.hid (show ks.take k = ks by rw [show k = n by omega, ← HN.out]; exact List.take_length)
                have HALL2 := Lib.hid (show ks.all X.okB = true by rw [← HT.out]; exact HALL.out)
                clear hall hbr
                by_cases hlb : lb = ⟨#[]⟩
                · obtain rfl : e = true := HE.out.2 hlb
                  subst hlb
                  go_wp2_with fail
                  go_ret
                  refine ⟨?_, HB0.out.trans (HBR.out.mono HB0.out.size)⟩
                  first
                    | rfl
                    | (rw [HALL2.out]; rfl)
                · obtain rfl : e = false := by
                    cases e with
                    | false => rfl
                    | true => exact absurd (HE.out.1 rfl) hlb
                  have hlt := tl_nil hlb
                  have hbe : (lb.toList == []) = false := by simp [hlt]
                  go_wp2_with fail
                  go_ret
                  refine ⟨?_, HB0.out.trans (HBR.out.mono HB0.out.size)⟩
                  first
                    | rfl
                    | (rw [HALL2.out]; rfl)
      · have hkb2 : (kd == 2) = false := by simp; omega
        have hkb3 : (kd == 3) = false := by simp; omega
        by_cases hk4 : kd = 4 ∨ kd = 5 ∨ kd = 6
        · by_cases hn2 : n = 1
          · subst hn2
            obtain ⟨e, hfit, he⟩ : ∃ e, fitB kd lb 1 = e ∧ (e = true ↔ lb = ⟨#[]⟩) := ⟨_, rfl, by unfold fitB; rw [if_neg hk1, if_neg hk2, if_pos hk4, Bool.and_eq_true, decide_eq_true_iff, decide_eq_true_iff]; exact ⟨fun h => h.1, fun h => ⟨h, rfl⟩⟩⟩
            rw [hfit]
            have HE := Lib.hid he
            clear hfit he
            rcases hk4 with rfl | rfl | rfl
            · go_enter Tryd.func70, Tryd.ntmps70
              go_upto_region 1 with (fail)
              try rw [hW0]
              go_upto_region 15 with (fail)
              clear d0 d1 d2
              go_loopw [3] (fun u3 wr => ∃ k : Nat, k ≤ 1 ∧ u3 = .int .i64 k ∧ (ks.take k).all X.okB = true ∧ Below W0.heap.size W0 wr) (fun u3 _ => 1 + 1 - (intOf u3).toNat)
              case atStart => exact ⟨0, Nat.zero_le _, rfl, rfl, Below.refl _ _⟩
              case round =>
                obtain ⟨k, hk, rfl, hall, hbr⟩ := hrel
                obtain ⟨d0, d1, d2⟩ := HBX.out wr hbr
                have HBR := Lib.hid hbr
                have HALL := Lib.hid hall
                by_cases hkn : k < 1
                · have hki : (k : Int) < 1 := by omega
                  have hkl : k < ks.length := by have := HN.out; omega
                  obtain ⟨ad, ky, e1, hbA, a0, a1, a2, hky⟩ := (HKD.out wr hbr).at3 hkl
                  subst e1
                  have hy38 := HIH.out ks[k] (List.getElem_mem _)
                  have hst : (ks.take (k + 1)).all X.okB = ((ks.take k).all X.okB && ks[k].okB) := by rw [List.take_succ_eq_append_getElem hkl, List.all_append]; simp
                  have hmem := List.getElem_mem hkl
                  obtain ⟨y, hy⟩ : ∃ y, ks[k] = y := ⟨_, rfl⟩
                  rw [hy] at a0 a1 hky hy38 hst hmem
                  have HST := Lib.hid (And.intro hst hmem)
                  have HC := Lib.hid (hy38 N wr _ ⟨ky, rfl, hky⟩ (Nat.le_trans hN (Nat.le_trans HB0.out.size hbr.size)))
                  obtain ⟨r, hr⟩ : ∃ r, y.okB = r := ⟨_, rfl⟩
                  rw [hr] at HC
                  have HR := Lib.hid hr
                  clear hbr hy38 hky hst hy hr hmem hall
                  cases r with
                  | true =>
                    go_wp2_with (go_at_call 70; refine HC.out.mono ?_; rintro e w1 ⟨rfl, hq⟩; have HQ := Lib.hid hq; clear hq)
                    go_roundw
                    case rel => exact ⟨k + 1, by omega, by go_num, by rw [HST.out.1, HALL.out, HR.out]; rfl, HBR.out.trans (HQ.out.mono HBR.out.size)⟩
                    case measure => simp [intOf]; omega
                  | false =>
                    go_wp2_with (go_at_call 70; refine HC.out.mono ?_; rintro e w1 ⟨rfl, hq⟩; have HQ := Lib.hid hq; clear hq)
                    go_ret
                    refine ⟨?_, HB0.out.trans ((HBR.out.trans (HQ.out.mono HBR.out.size)).mono HB0.out.size)⟩
                    rw [show ks.all X.okB = false from List.all_eq_false.2 ⟨y, HST.out.2, by rw [HR.out]; simp⟩, Bool.and_false]
                    rfl
                · have hki : ¬ (k : Int) < 1 := by omega
                  have HT := Lib.hid (show ks.take k = ks by rw [show k = 1 by omega, ← HN.out]; exact List.take_length)
                  have HALL2 := Lib.hid (show ks.all X.okB = true by rw [← HT.out]; exact HALL.out)
                  clear hall hbr
                  by_cases hlb : lb = ⟨#[]⟩
                  · obtain rfl : e = true := HE.out.2 hlb
                    subst hlb
                    go_wp2_with fail
                    go_ret
                    refine ⟨?_, HB0.out.trans (HBR.out.mono HB0.out.size)⟩
                    first
                      | rfl
                      | (rw [HALL2.out]; rfl)
                  · obtain rfl : e = false := by
                      cases e with
                      | false => rfl
                      | true => exact absurd (HE.out.1 rfl) hlb
                    have hlt := tl_nil hlb
                    have hbe : (lb.toList == []) = false := by simp [hlt]
                    go_wp2_with fail
                    go_ret
                    refine ⟨?_, HB0.out.trans (HBR.out.mono HB0.out.size)⟩
                    first
                      | rfl
                      | (rw [HALL2.out]; rfl)
            · go_enter Tryd.func70, Tryd.ntmps70
              go_upto_region 1 with (fail)
              try rw [hW0]
              go_upto_region 15 with (fail)
              clear d0 d1 d2
              go_loopw [3] (fun u3 wr => ∃ k : Nat, k ≤ 1 ∧ u3 = .int .i64 k ∧ (ks.take k).all X.okB = true ∧ Below W0.heap.size W0 wr) (fun u3 _ => 1 + 1 - (intOf u3).toNat)
              case atStart => exact ⟨0, Nat.zero_le _, rfl, rfl, Below.refl _ _⟩
              case round =>
                obtain ⟨k, hk, rfl, hall, hbr⟩ := hrel
                obtain ⟨d0, d1, d2⟩ := HBX.out wr hbr
                have HBR := Lib.hid hbr
                have HALL := Lib.hid hall
                by_cases hkn : k < 1
                · have hki : (k : Int) < 1 := by omega
                  have hkl : k < ks.length := by have := HN.out; omega
                  obtain ⟨ad, ky, e1, hbA, a0, a1, a2, hky⟩ := (HKD.out wr hbr).at3 hkl
                  subst e1
                  have hy38 := HIH.out ks[k] (List.getElem_mem _)
                  have hst : (ks.take (k + 1)).all X.okB = ((ks.take k).all X.okB && ks[k].okB) := by rw [List.take_succ_eq_append_getElem hkl, List.all_append]; simp
                  have hmem := List.getElem_mem hkl
                  obtain ⟨y, hy⟩ : ∃ y, ks[k] = y := ⟨_, rfl⟩
                  rw [hy] at a0 a1 hky hy38 hst hmem
                  have HST := Lib.hid (And.intro hst hmem)
                  have HC := Lib.hid (hy38 N wr _ ⟨ky, rfl, hky⟩ (Nat.le_trans hN (Nat.le_trans HB0.out.size hbr.size)))
                  obtain ⟨r, hr⟩ : ∃ r, y.okB = r := ⟨_, rfl⟩
                  rw [hr] at HC
                  have HR := Lib.hid hr
                  clear hbr hy38 hky hst hy hr hmem hall
                  cases r with
                  | true =>
                    go_wp2_with (go_at_call 70; refine HC.out.mono ?_; rintro e w1 ⟨rfl, hq⟩; have HQ := Lib.hid hq; clear hq)
                    go_roundw
                    case rel => exact ⟨k + 1, by omega, by go_num, by rw [HST.out.1, HALL.out, HR.out]; rfl, HBR.out.trans (HQ.out.mono HBR.out.size)⟩
                    case measure => simp [intOf]; omega
                  | false =>
                    go_wp2_with (go_at_call 70; refine HC.out.mono ?_; rintro e w1 ⟨rfl, hq⟩; have HQ := Lib.hid hq; clear hq)
                    go_ret
                    refine ⟨?_, HB0.out.trans ((HBR.out.trans (HQ.out.mono HBR.out.size)).mono HB0.out.size)⟩
                    rw [show ks.all X.okB = false from List.all_eq_false.2 ⟨y, HST.out.2, by rw [HR.out]; simp⟩, Bool.and_false]
                    rfl
                · have hki : ¬ (k : Int) < 1 := by omega
                  have HT := Lib.hid (show ks.take k = ks by rw [show k = 1 by omega, ← HN.out]; exact List.take_length)
                  have HALL2 := Lib.hid (show ks.all X.okB = true by rw [← HT.out]; exact HALL.out)
                  clear hall hbr
                  by_cases hlb : lb = ⟨#[]⟩
                  · obtain rfl : e = true := HE.out.2 hlb
                    subst hlb
                    go_wp2_with fail
                    go_ret
                    refine ⟨?_, HB0.out.trans (HBR.out.mono HB0.out.size)⟩
                    first
                      | rfl
                      | (rw [HALL2.out]; rfl)
                  · obtain rfl : e = false := by
                      cases e with
                      | false => rfl
                      | true => exact absurd (HE.out.1 rfl) hlb
                    have hlt := tl_nil hlb
                    have hbe : (lb.toList == []) = false := by simp [hlt]
                    go_wp2_with fail
                    go_ret
                    refine ⟨?_, HB0.out.trans (HBR.out.mono HB0.out.size)⟩
                    first
                      | rfl
                      | (rw [HALL2.out]; rfl)
            · go_enter Tryd.func70, Tryd.ntmps70
              go_upto_region 1 with (fail)
              try rw [hW0]
              go_upto_region 15 with (fail)
              clear d0 d1 d2
              go_loopw [3] (fun u3 wr => ∃ k : Nat, k ≤ 1 ∧ u3 = .int .i64 k ∧ (ks.take k).all X.okB = true ∧ Below W0.heap.size W0 wr) (fun u3 _ => 1 + 1 - (intOf u3).toNat)
              case atStart => exact ⟨0, Nat.zero_le _, rfl, rfl, Below.refl _ _⟩
              case round =>
                obtain ⟨k, hk, rfl, hall, hbr⟩ := hrel
                obtain ⟨d0, d1, d2⟩ := HBX.out wr hbr
                have HBR := Lib.hid hbr
                have HALL := Lib.hid hall
                by_cases hkn : k < 1
                · have hki : (k : Int) < 1 := by omega
                  have hkl : k < ks.length := by have := HN.out; omega
                  obtain ⟨ad, ky, e1, hbA, a0, a1, a2, hky⟩ := (HKD.out wr hbr).at3 hkl
                  subst e1
                  have hy38 := HIH.out ks[k] (List.getElem_mem _)
                  have hst : (ks.take (k + 1)).all X.okB = ((ks.take k).all X.okB && ks[k].okB) := by rw [List.take_succ_eq_append_getElem hkl, List.all_append]; simp
                  have hmem := List.getElem_mem hkl
                  obtain ⟨y, hy⟩ : ∃ y, ks[k] = y := ⟨_, rfl⟩
                  rw [hy] at a0 a1 hky hy38 hst hmem
                  have HST := Lib.hid (And.intro hst hmem)
                  have HC := Lib.hid (hy38 N wr _ ⟨ky, rfl, hky⟩ (Nat.le_trans hN (Nat.le_trans HB0.out.size hbr.size)))
                  obtain ⟨r, hr⟩ : ∃ r, y.okB = r := ⟨_, rfl⟩
                  rw [hr] at HC
                  have HR := Lib.hid hr
                  clear hbr hy38 hky hst hy hr hmem hall
                  cases r with
                  | true =>
                    go_wp2_with (go_at_call 70; refine HC.out.mono ?_; rintro e w1 ⟨rfl, hq⟩; have HQ := Lib.hid hq; clear hq)
                    go_roundw
                    case rel => exact ⟨k + 1, by omega, by go_num, by rw [HST.out.1, HALL.out, HR.out]; rfl, HBR.out.trans (HQ.out.mono HBR.out.size)⟩
                    case measure => simp [intOf]; omega
                  | false =>
                    go_wp2_with (go_at_call 70; refine HC.out.mono ?_; rintro e w1 ⟨rfl, hq⟩; have HQ := Lib.hid hq; clear hq)
                    go_ret
                    refine ⟨?_, HB0.out.trans ((HBR.out.trans (HQ.out.mono HBR.out.size)).mono HB0.out.size)⟩
                    rw [show ks.all X.okB = false from List.all_eq_false.2 ⟨y, HST.out.2, by rw [HR.out]; simp⟩, Bool.and_false]
                    rfl
                · have hki : ¬ (k : Int) < 1 := by omega
                  have HT := Lib.hid (show ks.take k = ks by rw [show k = 1 by omega, ← HN.out]; exact List.take_length)
                  have HALL2 := Lib.hid (show ks.all X.okB = true by rw [← HT.out]; exact HALL.out)
                  clear hall hbr
                  by_cases hlb : lb = ⟨#[]⟩
                  · obtain rfl : e = true := HE.out.2 hlb
                    subst hlb
                    go_wp2_with fail
                    go_ret
                    refine ⟨?_, HB0.out.trans (HBR.out.mono HB0.out.size)⟩
                    first
                      | rfl
                      | (rw [HALL2.out]; rfl)
                  · obtain rfl : e = false := by
                      cases e with
                      | false => rfl
                      | true => exact absurd (HE.out.1 rfl) hlb
                    have hlt := tl_nil hlb
                    have hbe : (lb.toList == []) = false := by simp [hlt]
                    go_wp2_with fail
                    go_ret
                    refine ⟨?_, HB0.out.trans (HBR.out.mono HB0.out.size)⟩
                    first
                      | rfl
                      | (rw [HALL2.out]; rfl)
          · have hfit : fitB kd lb n = false := by unfold fitB; rw [if_neg hk1, if_neg hk2, if_pos hk4, decide_eq_false hn2, Bool.and_false]
            rw [hfit]
            have hni : ¬ (n : Int) = 1 := by omega
            have hnb : ((n : Int) == 1) = false := by simp; omega
            clear hfit
            rcases hk4 with rfl | rfl | rfl
            · go_enter Tryd.func70, Tryd.ntmps70
              go_upto_region 1 with (fail)
              try rw [hW0]
              go_wp2_with fail
              go_ret
              exact ⟨rfl, HB0.out⟩
            · go_enter Tryd.func70, Tryd.ntmps70
              go_upto_region 1 with (fail)
              try rw [hW0]
              go_wp2_with fail
              go_ret
              exact ⟨rfl, HB0.out⟩
            · go_enter Tryd.func70, Tryd.ntmps70
              go_upto_region 1 with (fail)
              try rw [hW0]
              go_wp2_with fail
              go_ret
              exact ⟨rfl, HB0.out⟩
        · have hfit : fitB kd lb n = false := by unfold fitB; rw [if_neg hk1, if_neg hk2, if_neg hk4]
          rw [hfit]
          have hkb4 : (kd == 4) = false := by simp; omega
          have hkb5 : (kd == 5) = false := by simp; omega
          have hkb6 : (kd == 6) = false := by simp; omega
          go_enter Tryd.func70, Tryd.ntmps70
          go_upto_region 1 with (fail)
          try rw [hW0]
          go_wp2_with fail
          go_ret
          exact ⟨rfl, HB0.out⟩

theorem rright_any {N : Nat} {w : World} {v : Value} {x : X} (hx : XV N w v x) (hN : N ≤ w.heap.size) (hsz : x.sz ≤ 100000) (hl : x.lit) :
    Calls Tryd.prog 46 #[v] w fun e w' => e = .returned (.bool x.right) ∧ Below w.heap.size w w' := by
  have hS := (fun W (h : Below w.heap.size w W) => rsize_any x hsz N W v (hx.bel (h.mono hN)) (Nat.le_trans hN h.size))
  have hP := (fun W (h : Below w.heap.size w W) => rpart_any x hsz hl N W v (hx.bel (h.mono hN)) (Nat.le_trans hN h.size))
  obtain ⟨kx, rfl, hkx⟩ := hx
  obtain ⟨A, c, rfl⟩ := hkx.form
  obtain ⟨W0, hW0⟩ : ∃ W0, w.alloc (.cells #[.int .i64 x.kind, .string x.lab, .slice A x.kids.length c] 25) = W0 := ⟨_, rfl⟩
  obtain ⟨hb0, hz0, hbx, hkd⟩ := boxed_kids hW0 hkx hN
  have HB0 := Lib.hid hb0
  have HBX := Lib.hid hbx
  have HS := Lib.hid (fun W (h : Below W0.heap.size W0 W) => calls_base (hS W (hb0.trans (h.mono (by omega)))) h)
  have HP := Lib.hid (fun W (h : Below W0.heap.size W0 W) => calls_base (hP W (hb0.trans (h.mono (by omega)))) h)
  have hr := right_eq x
  generalize x.kind = kd at *
  generalize x.lab = lb at *
  generalize x.kids.length = n at *
  generalize x.sz = z at *
  generalize x.okB = p at *
  rw [hr]
  obtain ⟨d0, d1, d2⟩ := hbx W0 (Below.refl _ _)
  clear hr hbx hkd hS hP hb0 hz0 hkx
  by_cases hz : z ≤ 24
  · have hzi : (z : Int) ≤ 24 := by omega
    rw [show (decide (z ≤ 24) && p) = p by rw [decide_eq_true hz]; rfl]
    clear hz
    go_enter Tryd.func46, Tryd.ntmps46
    go_upto_region 1 with (fail)
    try rw [hW0]
    go_wp2_with (first
      | (go_at_call 69; refine (HS.out _ (Below.refl _ _)).mono ?_; rintro e w1 ⟨rfl, h1⟩; have H1 := Lib.hid h1; obtain ⟨d0, d1, d2⟩ := HBX.out _ h1; clear h1)
      | (go_at_call 70; refine (HP.out _ H1.out).mono ?_; rintro e w2 ⟨rfl, h2⟩; have H2 := Lib.hid h2; clear h2))
    go_ret
    exact ⟨rfl, HB0.out.trans (H2.out.mono HB0.out.size)⟩
  · have hzi : ¬ (z : Int) ≤ 24 := by omega
    rw [show (decide (z ≤ 24) && p) = false by rw [decide_eq_false hz]; rfl]
    clear hz
    go_enter Tryd.func46, Tryd.ntmps46
    go_upto_region 1 with (fail)
    try rw [hW0]
    go_wp2_with (go_at_call 69; refine (HS.out _ (Below.refl _ _)).mono ?_; rintro e w1 ⟨rfl, h1⟩; have H1 := Lib.hid h1; clear h1)
    go_ret
    exact ⟨rfl, HB0.out.trans (H1.out.mono HB0.out.size)⟩
end Go.Proofs.YtnccgaanfjaimaaDoor

namespace Go.Proofs.YtnccgaanfjaimaaDoor
open Go.ChangeShapes Go.WideShapes Go.ChangeAt Go.RowKit Go.Sort
set_option linter.unusedVariables false
set_option linter.unusedSimpArgs false

theorem parts9 : (Tryd.prog.info? 9).map (fun i => (i.zero, i.size, i.bytes)) = some (some (.string ⟨#[]⟩), 1, 16) := by kernel_rfl
theorem run_app_nil {P : Program} {w : World} (base : Nat) (t ty e : TypeId) (i : TypeInfo) (size : Nat) (ht : P.underlying t = some (.slice e)) (hi : P.info? e = some i) (v : Value) (n : Nat) (xs : List Value) (hown : w.ownsRow base e size v n xs) (c : Nat) :
    (Builtin.append_ #[t, t] ty #[v, .slice none 0 c]).run P w = .ok v w := by
  rcases hown.2 with ⟨rfl, rfl⟩ | ⟨g, cap, cur, rfl, _, _, hnc, _⟩
  · simp [Builtin.append_, run_underlying ht, sizeOf, typeInfo, hi, Builtin.lenOf, Builtin.firstCells]
  · simp [Builtin.append_, run_underlying ht, sizeOf, typeInfo, hi, Builtin.lenOf, Builtin.firstCells, hnc, storeCells]

theorem SR.news {B : Nat} {w : World} {ad : Addr} {n c : Nat} {l : Wd} (h : SR B w (.slice (some ad) n c) l) : ∀ j u, (l.map Value.string)[j]? = some u → w.cell? (ad.add j) = some u := by
  intro j u hu
  obtain ⟨A', c', e, hc⟩ := h
  have hj : j < l.length := by have := (List.getElem?_eq_some_iff.1 hu).1; simpa using this
  obtain ⟨ad', e2, _, hcell⟩ := hc (by omega)
  injection e with e3
  rw [e2] at e3
  injection e3 with e3
  subst e3
  rw [hcell j hj]
  simp [hj] at hu
  rw [hu]
theorem SR.len {B : Nat} {w : World} {A : Option Addr} {n c : Nat} {l : Wd} (h : SR B w (.slice A n c) l) : n = l.length := by
  obtain ⟨A', c', e, hc⟩ := h
  injection e
theorem SR.none {B : Nat} {w : World} {n c : Nat} {l : Wd} (h : SR B w (.slice none n c) l) : l = [] := by
  obtain ⟨A', c', e, hc⟩ := h
  rcases Nat.eq_zero_or_pos l.length with h0 | h0
  · exact List.eq_nil_of_length_eq_zero h0
  · obtain ⟨ad, e2, _⟩ := hc h0
    injection e with e3
    rw [e2] at e3
    cases e3

theorem run_app_sr {w : World} (ty : TypeId) (base : Nat) (v : Value) (n : Nat) (xs : List Value) (hown : w.ownsRow base 9 1 v n xs) {B : Nat} (A : Option Addr) (m c : Nat) (l : Wd) (hr : SR B w (.slice A m c) l) (hn : n + m ≤ 4398046511104) (hbase : base ≤ w.heap.size) :
    ∃ v' w', (Builtin.append_ #[41, 41] ty #[v, .slice A m c]).run Tryd.prog w = .ok v' w' ∧ w'.ownsRow base 9 1 v' (n + m) (xs ++ l.map Value.string) ∧ w.grownBy w' v.ownBlock ∧ (v'.ownBlock = v.ownBlock ∨ v'.ownBlock = some w.heap.size) := by
  obtain ⟨i9, hi9, hz9, hs9, hb9⟩ := info_parts parts9
  obtain rfl := hr.len
  cases A with
  | none =>
    obtain rfl := hr.none
    exact ⟨v, w, run_app_nil (P := Tryd.prog) base 41 ty 9 i9 1 Tryd.underlying41 hi9 v n xs hown c, by simpa using hown, ⟨rfl, rfl, rfl, Nat.le_refl _, fun _ _ _ => rfl⟩, .inl rfl⟩
  | some ad =>
    obtain ⟨v', w', hrun, h2, h3, h4, h5⟩ := run_append_own_at (P := Tryd.prog) w base 41 ty 9 i9 (.string ⟨#[]⟩) 1 16 Tryd.underlying41 hi9 hz9 hs9 hb9 rfl (by decide) v n xs hown ad l.length c (l.map Value.string) (by simp) hr.news (by simp [Value.oneCell']) (by unfold maxLen; omega) (by omega) hbase
    exact ⟨v', w', hrun, h2, h3, h5⟩

theorem wpList_append_sr {w : World} {ops : Array Oper} {rest : List Oper} {o : Oper} {a : Act} {Q : Exit → Act → World → Prop} (hgd : o.guard = none) (s x : Operand)
    (ho : o.op = .call { callee := .builtin .append, args := #[s, x], argTypes := #[41, 41] })
    (base : Nat) (v : Value) (n : Nat) (xs : List Value) (hs : a.eval s = v) (hown : w.ownsRow base 9 1 v n xs) {B : Nat} (A : Option Addr) (m c : Nat) (l : Wd) (hx : a.eval x = .slice A m c) (hr : SR B w (.slice A m c) l)
    (hn : n + m ≤ 4398046511104) (hbase : base ≤ w.heap.size)
    (h : ∀ v' w', w'.ownsRow base 9 1 v' (n + m) (xs ++ l.map Value.string) → w.grownBy w' v.ownBlock → (v'.ownBlock = v.ownBlock ∨ v'.ownBlock = some w.heap.size) → wpList Tryd.prog ops Q rest (a.put o.dst v') w') : wpList Tryd.prog ops Q (o :: rest) a w := by
  refine wpList_plain hgd fun K hK => ?_
  obtain ⟨v', w', hr2, h2, h3, h5⟩ := run_app_sr (w := w) o.type base v n xs hown A m c l hr hn hbase
  unfold Oper.wp execOp
  simp only [ho, resolve, invoke, builtin, Sem.run_bind, Sem.run_pure, Result.andThen_ok, List.map_toArray, List.map_cons, List.map_nil, hs, hx, hr2]
  exact hK _ _ (h v' w' h2 h3 h5)

theorem step_append_sr {w : World} {ops : Array Oper} {o : Oper} {a : Act} {K : Act → World → Prop} {Q : Exit → Act → World → Prop} {E : Prop} (hgd : o.guard = none) (s x : Operand)
    (ho : o.op = .call { callee := .builtin .append, args := #[s, x], argTypes := #[41, 41] })
    (base : Nat) (v : Value) (n : Nat) (xs : List Value) (hs : a.eval s = v) (hown : w.ownsRow base 9 1 v n xs) {B : Nat} (A : Option Addr) (m c : Nat) (l : Wd) (hx : a.eval x = .slice A m c) (hr : SR B w (.slice A m c) l)
    (hn : n + m ≤ 4398046511104) (hbase : base ≤ w.heap.size)
    (h : ∀ v' w', w'.ownsRow base 9 1 v' (n + m) (xs ++ l.map Value.string) → w.grownBy w' v.ownBlock → (v'.ownBlock = v.ownBlock ∨ v'.ownBlock = some w.heap.size) → K (a.put o.dst v') w') :
    if Region.wanted o (yielded ops a.tmps) = true then Oper.wp Tryd.prog o a w K Q else E := by
  have hw : Region.wanted o (yielded ops a.tmps) = true := by simp [Region.wanted, hgd]
  rw [if_pos hw]
  obtain ⟨v', w', hr2, h2, h3, h5⟩ := run_app_sr (w := w) o.type base v n xs hown A m c l hr hn hbase
  unfold Oper.wp execOp
  simp only [ho, resolve, invoke, builtin, Sem.run_bind, Sem.run_pure, Result.andThen_ok, List.map_toArray, List.map_cons, List.map_nil, hs, hx, hr2]
  exact h v' w' h2 h3 h5

/-- a row of its own, told as a row of texts -/
theorem own_SR2 {w : World} {base : Nat} {v : Value} {l : List ByteArray} (h : w.ownsRow base 9 1 v l.length (l.map Value.string)) : SR w.heap.size w v l ∧ ∀ A m c, v = .slice A m c → m ≤ c := by
  rcases h.2 with ⟨rfl, h0⟩ | ⟨g, cap, cur, rfl, hb, hg, h1, h2, h3, h4⟩
  · exact ⟨⟨none, 0, by rw [h0], fun h => by omega⟩, fun A m c e => by injection e with _ e1 e2; omega⟩
  · refine ⟨⟨_, cap, rfl, fun _ => ⟨⟨g, 0, none⟩, rfl, (Array.getElem?_eq_some_iff.1 hg).1, fun k hk => ?_⟩⟩, fun A m c e => by injection e with _ e1 e2; omega⟩
    have e : (cur.toList.take (l.length * 1))[k]? = (l.map Value.string)[k]? := by rw [h4]
    rw [List.getElem?_take_of_lt (by omega)] at e
    have e2 : cur[k]? = some (.string l[k]) := by rw [← Array.getElem?_toList, e]; simp [hk]
    have := cell_of_row w g k cur 9 _ hg
    have e3 : (⟨g, 0, none⟩ : Addr).add k = ⟨g, k, none⟩ := by
      unfold Addr.add
      split
      · next h0 => subst h0; rfl
      · simp
    rw [e3, this]
    exact e2
theorem own_lit (W : World) (s : ByteArray) {base : Nat} (hb : base ≤ W.heap.size) : (W.alloc (.cells #[.string s] 9)).ownsRow base 9 1 (.slice (some ⟨W.heap.size, 0, none⟩) 1 1) 1 [.string s] :=
  ⟨rfl, .inr ⟨W.heap.size, 1, #[.string s], rfl, hb, at_push _ _, Nat.le_refl _, by unfold maxLen; omega, rfl, rfl⟩⟩

end Go.Proofs.YtnccgaanfjaimaaDoor
