/- Texts ZC, PD, W, ZA, one behind the other. -/
import Derived.Test.YtnccgaanfjaimaaDoorG2
import Derived.Test.YtnccgaanfjaimaaDoorG6
import Derived.Laws.AppendOwn
import Derived.Shelf.Spec.TrailingZeros
import Derived.Test.YtnccgaanfjaimaaDoorTie
import Derived.Test.YtnccgaanfjaimaaDoorCards
import Derived.Stop.Joined
import Derived.Stop.LaidErr
set_option linter.unusedSimpArgs false
set_option linter.unusedVariables false
namespace Go.Proofs.YtnccgaanfjaimaaDoor
open Go.ChangeShapes Go.WideShapes Go.ChangeAt Go.RowKit
set_option linter.unusedVariables false
set_option linter.unusedSimpArgs false

/-- the library's table -/
def Tb (w : World) : Prop := TabAt 0 Lib.deBruijn32tab w
theorem Tb.low {w w' : World} (h : Tb w) (hk : w'.heap[0]? = w.heap[0]?) : Tb w' := fun j hj => (World.cell?_of_block hk).trans (h j hj)
theorem Tb.pos {w : World} (h : Tb w) : 0 < w.heap.size := World.block_lt_of_cell? _ _ (h 0 (by decide))
theorem Tb.below {B : Nat} {w w' : World} (h : Tb w) (hb : Below B w w') (hB : 0 < B) : Tb w' := h.low (hb.block 0 hB)

theorem tz_core (x k idx : Nat) (w : World) (hx0 : ((x : Int) == 0) = false)
    (key : bits BinOp.and IntKind.u32 (x : Int) (-(x : Int) % 4294967296) * 125613361 % 4294967296 / 134217728 = (idx : Int))
    (hi : idx < 32) (hk : k < 32) (hcell : w.cell? ⟨0, idx, none⟩ = some (.int .u8 k)) :
    Calls Tryd.prog 85 #[.int .u32 x] w fun e w' => e = .returned (.int .i64 k) ∧ w = w' := by
  go_enter Tryd.func85, Tryd.ntmps85
  go_wp2_with (simp only [key])
  go_ret
  exact ⟨rfl, rfl⟩
theorem tz_any {x : Nat} (h0 : x ≠ 0) (hx : x < 4294967296) {w : World} (hT : Tb w) :
    Calls Tryd.prog 85 #[.int .u32 x] w fun e w' => e = .returned (.int .i64 (Lib.ctz 32 x)) ∧ w = w' := by
  obtain ⟨hlow, hk⟩ := Lib.lowest_bit 32 x h0 hx
  obtain ⟨hi, htab⟩ := Lib.deBruijn32_at _ hk
  have hcell := hT _ hi
  rw [htab] at hcell
  exact tz_core x _ _ w (by simp; omega) (tz32_key x _ hx h0 hlow) hi hk hcell

theorem only_any (p : Nat) (hp : p < 32) (w : World) : Calls Tryd.prog 45 #[.int .i64 p] w fun e w' => e = .returned (.int .u32 ((2 ^ p : Nat) : Int)) ∧ w = w' := by
  have h32 : (2 : Nat) ^ p < 4294967296 := Nat.pow_lt_pow_right (by decide : 1 < 2) hp
  have he : (2 : Int) ^ p % 4294967296 = ((2 ^ p : Nat) : Int) := by
    rw [show (2 : Int) ^ p = ((2 ^ p : Nat) : Int) by simp]
    generalize (2 ^ p : Nat) = m at *
    omega
  have HE := Lib.hid he
  clear he h32
  go_enter Tryd.func45, Tryd.ntmps45
  go_wp2
  go_ret
  exact ⟨by rw [← HE.out]; rfl, rfl⟩

theorem rising_any (s : Int) (w : World) : Calls Tryd.prog 68 #[.int .u32 s] w fun e w' => e = .returned (.func (.func 84) #[] #[.pointer (some ⟨w.heap.size, 0, none⟩)]) ∧ w' = w.alloc (.cells #[.int .u32 s] 69) := by
  go_enter Tryd.func68, Tryd.ntmps68
  go_wp2
  go_ret
  exact ⟨rfl, rfl⟩

theorem u32_or (a b : Nat) (ha : a < 4294967296) (hb : b < 4294967296) : bits .or .u32 (a : Int) (b : Int) = ((a ||| b : Nat) : Int) := by
  have hx : a ||| b < 2 ^ 32 := Nat.or_lt_two_pow (by omega) (by omega)
  have h1 : (BitVec.ofInt 32 (a : Int)).toNat = a := by
    rw [BitVec.ofInt_natCast, BitVec.toNat_ofNat]; exact Nat.mod_eq_of_lt (by omega)
  have h2 : (BitVec.ofInt 32 (b : Int)).toNat = b := by
    rw [BitVec.ofInt_natCast, BitVec.toNat_ofNat]; exact Nat.mod_eq_of_lt (by omega)
  show IntKind.u32.wrap ((BitVec.ofInt 32 (a : Int) ||| BitVec.ofInt 32 (b : Int)).toNat : Int) = _
  rw [BitVec.toNat_or, h1, h2, wrap_u32']
  omega

/-- rounds keep the table -/
def KpT (A B : World) : Prop := Tb A → Tb B
theorem KpT.trans {A B C : World} (h : KpT A B) (k : KpT B C) : KpT A C := fun x => k (h x)
theorem KpT.put {W : World} {l : Nat} {o : Obj} (hl : 0 < l) : KpT W (W.putObj l o) := fun h => h.low (World.putObj_heap_other (by omega))
def encN (p : Nat) : Array Value := #[.int .i64 p]

set_option maxRecDepth 100000 in
set_option maxHeartbeats 4000000 in
theorem rising_seq {w0 : World} (n : Nat) (hn : 2 ≤ n) {s Bx : Nat} (hB : w0.heap[Bx]? = some (.cells #[.int .u32 s] 69 (0, 0))) (hT : Tb w0) (hs : s < 2 ^ 32) :
    SeqX Fence.wide n Tryd.prog 84 #[.pointer (some ⟨Bx, 0, none⟩)] encN KpT (els s) w0 := by
  intro l J Jx W hW hJ hJx hY h0
  have HY := Lib.hid hY
  have hb := cell_of_row _ _ 0 _ 69 (0, 0) ((hW.block _ (Array.getElem?_eq_some_iff.1 hB).1).trans hB)
  simp only [List.getElem?_toArray, List.getElem?_cons_zero] at hb
  have HT := Lib.hid (show Tb W from hT.below hW hT.pos)
  have HJ0 := Lib.hid h0
  have HS := Lib.hid hs
  clear hY hJ h0 hJx hB hT hW hs
  refine callsIn_of_wp Tryd.func84 rfl trivial ?_ rfl
  simp only [Tryd.ntmps84, List.size_toArray, List.length_cons, List.length_nil, Nat.reduceAdd, Nat.reduceSub, Array.replicate_succ, Array.replicate_zero, List.push_toArray, List.append_toArray, List.nil_append, List.cons_append]
  refine wpIn_wide.2 ?_
  go_wp2_with fail
  go_loopg [3] s (fun k v wr => ∃ (r : Nat) (done : List Nat), v = .int .u32 r ∧ r < 2 ^ 32 ∧ done ++ els r = els s ∧ J done wr ∧ Tb wr ∧ W.heap.size ≤ wr.heap.size ∧ k = r)
  case atStart => exact ⟨s, [], rfl, HS.out, rfl, HJ0.out, HT.out, Nat.le_refl _, rfl⟩
  case round =>
    obtain ⟨r, done, rfl, hr, hdone, hj, ht, hwz, rfl⟩ := hrel
    have hr : gk < 2 ^ 32 := hr
    by_cases h0 : gk = 0
    · subst h0
      rw [els_zero, List.append_nil] at hdone
      subst hdone
      have HJE := Lib.hid hj
      clear hr hj ht
      go_wp2_with fail
      go_end0
      exact ⟨⟨_, rfl⟩, .inl HJE.out⟩
    · obtain ⟨he, hc⟩ := els_step h0 hr
      have htz := tz_any h0 hr ht
      have hpfx : done ++ [Lib.ctz 32 gk] <+: els s := ⟨els (gk &&& (gk - 1)), by rw [← hdone, he, List.append_assoc]; rfl⟩
      have hdn : (done ++ [Lib.ctz 32 gk]) ++ els (gk &&& (gk - 1)) = els s := by rw [← hdone, he, List.append_assoc]; rfl
      have hlt := and_pred_lt h0
      obtain ⟨fn, tmps, assign, body, hy, hR⟩ := HY.out done (Lib.ctz 32 gk) wr hpfx hwz hj
      simp only [encN] at hy
      have HR := Lib.hid hR
      have HZ := Lib.hid htz
      have X1 := Lib.hid (And.intro hpfx (And.intro hdn (And.intro hlt (And.intro ht hwz))))
      have hk0 : (gk : Int) ≠ 0 := by omega
      have HN := Lib.hid hr
      generalize Lib.ctz 32 gk = c at *
      clear hr hdone hj ht hwz he hpfx hdn hlt hR htz h0
      go_upto_region 3 with (fail)
      refine wpIn_wide.1 (?_ : Code.wpIn Fence.wide n Tryd.prog _ _ _ _)
      gi_wp2
      refine ⟨trivial, fun h => (by cases h), ?_⟩
      refine ((callsIn_wide (n := n - 1)).2 HZ.out).mono ?_
      rintro e w1 ⟨rfl, rfl⟩
      gi_wp2
      refine ⟨fun h => (by cases h), ?_⟩
      refine HR.out.mono ?_
      rintro e W4 ⟨hkf, (⟨rfl, hJ4, hk4⟩ | ⟨rfl, hJx4⟩)⟩
      · have X4 := Lib.hid (And.intro hkf (And.intro hJ4 hk4))
        clear hkf hJ4 hk4
        gi_wp2
        have hsub : IntKind.u32.wrap ((gk : Int) - 1) = ((gk - 1 : Nat) : Int) := by have := HN.out; rw [wrap_u32']; omega
        have hand := bits_and_u32_nat gk (gk - 1) (by have := HN.out; omega) (by have := HN.out; omega)
        go_wp2_with fail
        go_roundg (gk &&& (gk - 1))
        case measure => exact X1.out.2.2.1
        case rel => exact ⟨gk &&& (gk - 1), done ++ [c], by rw [← hand, ← hsub], by have h1 := X1.out.2.2.1; have h2 := HN.out; omega, X1.out.2.1, X4.out.2.1, X4.out.2.2 X1.out.2.2.2.1, Nat.le_trans X1.out.2.2.2.2 X4.out.1.size, rfl⟩
      · have X4 := Lib.hid hJx4
        clear hkf hJx4
        gi_wp2
        go_wp2_with fail
        refine bodyPost_ret (results_none rfl _ _ _) rfl ?_
        exact ⟨⟨_, rfl⟩, .inr ⟨_, X1.out.1, X4.out⟩⟩
theorem info3 : (Tryd.prog.info? 3).map (fun i => (i.zero, i.size, i.bytes)) = some (some (.int .i64 0), 1, 8) := by kernel_rfl
theorem own_low {w : World} {B B' e sz n : Nat} {v : Value} {xs : List Value} (h : w.ownsRow B e sz v n xs) (hB : B' ≤ B) : w.ownsRow B' e sz v n xs := by
  refine ⟨h.1, ?_⟩
  rcases h.2 with hn | ⟨g, cap, cur, e1, hbg, rest⟩
  · exact .inl hn
  · exact .inr ⟨g, cap, cur, e1, Nat.le_trans hB hbg, rest⟩
/-- numbers as cells -/
def nums (l : List Nat) : List Value := l.map fun p : Nat => Value.int .i64 (p : Int)
theorem nums_snoc (l : List Nat) (p : Nat) : nums (l ++ [p]) = nums l ++ [.int .i64 (p : Int)] := by simp [nums]

attribute [local go_sem] Oper.semAt_some

set_option maxRecDepth 100000 in
set_option maxHeartbeats 4000000 in
theorem collect87_any {w : World} {s Bx : Nat} (hB : w.heap[Bx]? = some (.cells #[.int .u32 s] 69 (0, 0))) (hT : Tb w) (hs : s < 2 ^ 32) :
    Calls Tryd.prog 87 #[.slice none 0 0, .func (.func 84) #[] #[.pointer (some ⟨Bx, 0, none⟩)]] w fun e w' => ∃ v, e = .returned v ∧ w'.ownsRow w.heap.size 3 1 v (els s).length (nums (els s)) ∧ Below w.heap.size w w' := by
  have hl := (Array.getElem?_eq_some_iff.1 hB).1
  have hb1 : Below w.heap.size w (w.alloc (.cells #[.slice none 0 0] 37)) := (Below.refl _ w).alloc (Nat.le_refl _) _
  have hseq := rising_seq 11 (by decide) ((hb1.block _ hl).trans hB) (hT.below hb1 hT.pos) hs
  have HSEQ := Lib.hid hseq
  have hlen : (els s).length ≤ 32 := els_len s
  have hpos := hT.pos
  have HT1 := Lib.hid (hT.below hb1 hpos)
  clear hseq hT hB hs
  refine (callsIn_wide (n := 12)).1 ?_
  refine callsIn_of_wp_marks Tryd.func87 rfl trivial ?_ rfl
  simp only [Tryd.ntmps87, List.size_toArray, List.length_cons, List.length_nil, Nat.reduceAdd, Nat.reduceSub, Array.replicate_succ, Array.replicate_zero, List.push_toArray, List.append_toArray, List.nil_append, List.cons_append]
  refine wpIn_wide.2 ?_
  go_wp2_with fail
  have hbk : Boxed (w.alloc (.cells #[.slice none 0 0] 37)) w.heap.size 37 (.slice none 0 0) := Boxed.new w _ _
  generalize hW1 : w.alloc (.cells #[.slice none 0 0] 37) = w1 at *
  have hz1 : w1.heap.size = w.heap.size + 1 := by rw [← hW1]; simp
  obtain ⟨i0, hi, hz0, hzz, hz2⟩ := info_parts info3
  refine wpIn_wide.1 (?_ : Code.wpIn Fence.wide 12 Tryd.prog _ _ _ _)
  refine wpIn_rangeFunc_X rfl (by omega) (gf := 84) (lb := #[.pointer (some ⟨Bx, 0, none⟩)]) rfl trivial (enters_of Tryd.func84 (by kernel_rfl) rfl)
    HSEQ.out KpT.trans (fun W' l' o o' hlw hl' ho _ => KpT.put (by omega)) (Below.refl _ _) (fun _ => rfl)
    (fun pre W' => (∃ v, Boxed W' w.heap.size 37 v ∧ W'.ownsRow w.heap.size 3 1 v pre.length (nums pre)) ∧ Below w.heap.size w W' ∧ w1.heap.size ≤ W'.heap.size ∧ Tb W')
    (fun _ _ _ => False)
    ?hI (fun c s X Y h => h.elim)
    ⟨⟨_, hbk, World.ownsRow_nil w1 w.heap.size 3 1⟩, hb1, Nat.le_refl _, HT1.out⟩
    (fun p a' W' => a' = { tmps := #[.slice none 0 0, .func (.func 84) #[] #[.pointer (some ⟨Bx, 0, none⟩)], .pointer (some ⟨w.heap.size, 0, none⟩), undef, .slice none 0 0, .int .i64 p, .func (.func 84) #[] #[.pointer (some ⟨Bx, 0, none⟩)], .int .i64 p, undef, undef, undef, undef, undef], defers := [] })
    (fun _ _ _ _ _ h _ => h) ?assign ?body ?done (fun _ _ _ _ _ _ h _ => h.elim)
  case hI =>
    rintro pre X Y ⟨⟨v, h1, h2⟩, h3, h4, h5⟩ hr
    exact ⟨⟨v, hr.cells h1 (by decide), hr.row h2 (by decide)⟩, h3.trans ⟨hr.os, hr.tape, hr.output, hr.size, fun k hk => hr.block k (Nat.lt_of_lt_of_le hk h3.size) (.inl (by omega))⟩, Nat.le_trans h4 hr.size, h5.low (hr.block 0 h5.pos (.inl (by omega)))⟩
  case assign =>
    intro l1 pre p W' K hI hpx hK
    have HK := Lib.hid hK
    have HI' := Lib.hid hI
    unfold encN
    clear hK hI
    gi_wp2
    exact HK.out _ _ (KeepsFrom.refl _ _) (fun h => h) HI'.out rfl
  case body =>
    rintro l1 pre p a' W hwl hloop hpx ⟨⟨v, hv, hrow⟩, hB, hsz, ht⟩ rfl
    have hc := hv.cell
    have hpl : pre.length < 32 := by have := hpx.length_le; simp at this; omega
    gi_wp2_with (gi_at_builtin; refine wpListIn_append_own _ rfl _ _ 37 rfl w.heap.size 3 i0 (.int .i64 0) 1 8 Tryd.underlying37 hi hz0 hzz hz2 rfl (by decide) _ _ _ rfl (hrow.alloc _) ⟨W.heap.size, 0, none⟩ 1 1 [.int .i64 p] rfl rfl (cell_one_new _ _ _) (by simp [Value.oneCell']) (by unfold maxLen; omega) (by omega) (by simp; omega) ?_; intro v' w2 hown' hgrow _; obtain ⟨g', cap', rfl⟩ := ownsRow_succ hown'; obtain ⟨hv1, hv2, hown2, hk2, hb2⟩ := hv.appended (by decide) hrow (by omega) (Nat.le_refl _) hown' hgrow; have hc1 := hv1.cell; have hf1 := hv1.frozen)
    refine ⟨hk2.from _, fun _ => ht.below hb2 (by omega), ⟨_, hv2, ?_⟩, hB.trans hb2, Nat.le_trans hsz hb2.size, ht.below hb2 (by omega)⟩
    rw [nums_snoc, List.length_append]
    exact hown2
  case done =>
    rintro D W hD ⟨⟨v, hv, hrow⟩, hB, hsz, ht⟩ hK
    obtain ⟨A, q, rfl⟩ := row_form hrow
    have hc := hv.cell
    go_wp2_with fail
    refine ⟨by simp, .inl ⟨_, _, rfl, run_takeDeferred hK, ?_⟩⟩
    refine ⟨.slice A (els s).length q, by simp [results, Tryd.results87, go_sem], .slice A (els s).length q, rfl, ownsRow_putObj hrow (.deferred none) hK rfl, belowK w hB (by omega)⟩
theorem collect_any {w : World} {s Bx : Nat} (hB : w.heap[Bx]? = some (.cells #[.int .u32 s] 69 (0, 0))) (hT : Tb w) (hs : s < 2 ^ 32) :
    Calls Tryd.prog 73 #[.func (.func 84) #[] #[.pointer (some ⟨Bx, 0, none⟩)]] w fun e w' => ∃ v, e = .returned v ∧ w'.ownsRow w.heap.size 3 1 v (els s).length (nums (els s)) ∧ Below w.heap.size w w' := by
  have H := Lib.hid (collect87_any hB hT hs)
  clear hB hT hs
  go_enter Tryd.func73, Tryd.ntmps73
  go_wp2_with (go_at_call 87; refine H.out.mono ?_; rintro e w1 ⟨v, rfl, hr, hb⟩; have HR := Lib.hid (And.intro hr hb); clear hr hb)
  go_ret
  exact ⟨_, rfl, HR.out.1, HR.out.2⟩
/-- a set's list -/
def ListR (s : Nat) (w : World) (e : Ending) (w' : World) : Prop := ∃ v, e = .returned v ∧ w'.ownsRow w.heap.size 3 1 v (els s).length (nums (els s)) ∧ Below w.heap.size w w'
theorem list_any (s : Nat) {w : World} (hT : Tb w) (hs : s < 2 ^ 32) : Calls Tryd.prog 53 #[.int .u32 s] w (ListR s w) := by
  unfold ListR
  have H := Lib.hid (collect_any (w := w.alloc (.cells #[.int .u32 s] 69)) (Bx := w.heap.size) (s := s) (World.alloc_heap_new w _) (hT.below ((Below.refl _ w).alloc (Nat.le_refl _) _) hT.pos) hs)
  have HB := Lib.hid ((Below.refl _ w).alloc (Nat.le_refl _) (.cells #[.int .u32 s] 69))
  clear hT hs
  go_enter Tryd.func53, Tryd.ntmps53
  go_wp2_with (first | (go_at_call 68; refine (rising_any s w).mono ?_; rintro e w1 ⟨rfl, rfl⟩) | (go_at_call 73; refine H.out.mono ?_; rintro e w1 ⟨v, rfl, hr, hb⟩; have HR := Lib.hid (And.intro hr hb); clear hr hb))
  go_ret
  have h1 := HR.out.1
  have h2 := HR.out.2
  rw [World.size_alloc] at h1 h2
  exact ⟨_, rfl, own_low h1 (by omega), HB.out.trans (h2.mono (by omega))⟩
end Go.Proofs.YtnccgaanfjaimaaDoor

namespace Go.Proofs.YtnccgaanfjaimaaDoor
open Go.ChangeShapes Go.WideShapes Go.ChangeAt Go.RowKit Go.Deep Go.Joins
set_option linter.unusedVariables false

def laidL : List (String × DataW Unit) := [("math/bits.deBruijn32tab", Rows.laid_math_bits_deBruijn32tab)]
theorem gTab : Tryd.prog.globalNamed "math/bits.deBruijn32tab" = some 0 := by kernel_rfl
theorem tTab : (Tryd.prog.globals[0]?).map (·.type) = some 130 := by kernel_rfl
theorem cells5' : Tryd.prog.cellsOf 5 = 1 := by kernel_rfl
theorem cells130 : Tryd.prog.cellsOf 130 = 32 := by kernel_rfl
theorem tab_data : (Rows.laid_math_bits_deBruijn32tab : DataW Unit) = Lib.tabData .u8 (Lib.deBruijn32tab.map fun k : Nat => (k : Int)) := by rfl

/-- the door's own heap meets the condition -/
theorem door_met (os : Os) (args : Array Value) : laidMetH Tryd.prog laidL ((World.doorLaid Tryd.prog 400 os).forCall (fun _ _ => 0) ⟨#[], args, []⟩).memory :=
  laidMetH_of_parts3 (fuel := 8) (laidMet_of_run' 8 (by kernel_rfl) (by kernel_rfl)) (by kernel_rfl) (by kernel_rfl)

theorem tb_of {W : World} (h : laidMetH Tryd.prog laidL W) : Tb W := by
  rw [MakeChecks.laidMetH_plain _ _ _ (by kernel_rfl)] at h
  have h3 : laidMet Tryd.prog [("math/bits.deBruijn32tab", Rows.laid_math_bits_deBruijn32tab)] W := h
  rw [tab_data] at h3
  have ht := Lib.tabIs_of_head gTab tTab Tryd.underlying130 Tryd.underlying5 cells5' cells130 h3
  intro j hj
  have hc := Lib.TabIs.cell ht gTab j (by rw [List.length_map]; exact hj)
  rw [hc]
  simp [List.getD, hj]
end Go.Proofs.YtnccgaanfjaimaaDoor

namespace Go.Proofs.YtnccgaanfjaimaaDoor
open Go.ChangeShapes Go.WideShapes Go.ChangeAt Go.RowKit
set_option linter.unusedVariables false
set_option linter.unusedSimpArgs false

abbrev Wd := List ByteArray

/-- one or more, one behind the other -/
inductive Pl (P : Wd → Prop) : Wd → Prop where
  | one (p : Wd) (h : P p) : Pl P p
  | snoc (p q : Wd) (h : Pl P p) (h1 : P q) : Pl P (p ++ q)

mutual
def X.L : X → Wd → Prop
  | .mk k l ks, u => if k = 1 then u = [l] else if k = 2 then LS ks u else if k = 3 then LA ks u else if k = 6 then u = [] ∨ LA ks u else if k = 4 then u = [] ∨ Pl (fun v => LA ks v) u else Pl (fun v => LA ks v) u
def LS : List X → Wd → Prop
  | [], u => u = []
  | x :: xs, u => ∃ p q, u = p ++ q ∧ X.L x p ∧ LS xs q
def LA : List X → Wd → Prop
  | [], _ => False
  | x :: xs, u => X.L x u ∨ LA xs u
end
theorem X.L_eq (x : X) (u : Wd) : x.L u ↔ if x.kind = 1 then u = [x.lab] else if x.kind = 2 then LS x.kids u else if x.kind = 3 then LA x.kids u else if x.kind = 6 then u = [] ∨ LA x.kids u else if x.kind = 4 then u = [] ∨ Pl (LA x.kids) u else Pl (LA x.kids) u := by
  cases x
  rw [X.L]
  rfl
theorem LS_nil (u : Wd) : LS [] u ↔ u = [] := by rw [LS]
theorem LS_cons (x : X) (xs : List X) (u : Wd) : LS (x :: xs) u ↔ ∃ p q, u = p ++ q ∧ x.L p ∧ LS xs q := by rw [LS]
theorem LA_nil (u : Wd) : LA [] u ↔ False := by rw [LA]
theorem LA_cons (x : X) (xs : List X) (u : Wd) : LA (x :: xs) u ↔ x.L u ∨ LA xs u := by rw [LA]

theorem Pl.cons {P : Wd → Prop} {p q : Wd} (hp : P p) (hq : Pl P q) : Pl P (p ++ q) := by
  induction hq with
  | one q h => exact .snoc p q (.one p hp) h
  | snoc a b h h1 ih =>
    rw [← List.append_assoc]
    exact .snoc _ b ih h1
theorem Pl.split {P : Wd → Prop} {u : Wd} (h : Pl P u) : ∃ p q, u = p ++ q ∧ P p ∧ (q = [] ∨ Pl P q) := by
  induction h with
  | one p h => exact ⟨p, [], by simp, h, .inl rfl⟩
  | snoc a b h h1 ih =>
    obtain ⟨p, q, rfl, hp, hq⟩ := ih
    refine ⟨p, q ++ b, by simp, hp, .inr ?_⟩
    rcases hq with rfl | hq
    · exact .one _ h1
    · exact .snoc _ _ hq h1
theorem Pl.split1 {P : Wd → Prop} {u : Wd} (h : Pl P u) (hu : u ≠ []) : ∃ p q, u = p ++ q ∧ p ≠ [] ∧ P p ∧ (q = [] ∨ Pl P q) := by
  induction h with
  | one p h => exact ⟨p, [], by simp, hu, h, .inl rfl⟩
  | snoc a b h h1 ih =>
    by_cases ha : a = []
    · subst ha
      exact ⟨b, [], by simp, by simpa using hu, h1, .inl rfl⟩
    · obtain ⟨p, q, rfl, hp0, hp, hq⟩ := ih ha
      refine ⟨p, q ++ b, by simp, hp0, hp, .inr ?_⟩
      rcases hq with rfl | hq
      · exact .one _ h1
      · exact .snoc _ _ hq h1
theorem Pl.nil {P : Wd → Prop} : Pl P [] ↔ P [] := by
  refine ⟨fun h => ?_, fun h => .one _ h⟩
  generalize hu : ([] : Wd) = u at h
  induction h with
  | one p h => exact h
  | snoc a b h h1 ih =>
    have := congrArg List.length hu
    simp at this
    obtain rfl : b = [] := List.eq_nil_of_length_eq_zero (by omega)
    obtain rfl : a = [] := List.eq_nil_of_length_eq_zero (by omega)
    exact h1

/-- a piece of the labels that come -/
def seg (w : Nat → ByteArray) (i k : Nat) : Wd := (List.range' i (k - i)).map w
theorem seg_len (w : Nat → ByteArray) (i k : Nat) : (seg w i k).length = k - i := by simp [seg]
theorem seg_self (w : Nat → ByteArray) (i : Nat) : seg w i i = [] := by simp [seg]
theorem seg_app (w : Nat → ByteArray) {i j k : Nat} (h : i ≤ j) (h' : j ≤ k) : seg w i j ++ seg w j k = seg w i k := by
  unfold seg
  rw [← List.map_append]
  congr 1
  have := @List.range'_append_1 i (j - i) (k - j)
  rw [show i + (j - i) = j by omega, show (j - i) + (k - j) = k - i by omega] at this
  exact this
theorem seg_split {w : Nat → ByteArray} {i k : Nat} (h : i ≤ k) {p q : Wd} (e : seg w i k = p ++ q) : ∃ j, i ≤ j ∧ j ≤ k ∧ p = seg w i j ∧ q = seg w j k := by
  have hl := congrArg List.length e
  rw [seg_len, List.length_append] at hl
  refine ⟨i + p.length, by omega, by omega, ?_⟩
  have h1 := seg_app w (i := i) (j := i + p.length) (k := k) (by omega) (by omega)
  rw [e] at h1
  have h2 := List.append_inj h1 (by rw [seg_len]; omega)
  exact ⟨h2.1.symm, h2.2.symm⟩
theorem seg_one (w : Nat → ByteArray) (k : Nat) : seg w k (k + 1) = [w k] := by simp [seg]
theorem seg_ne (w : Nat → ByteArray) {i k : Nat} (h : i < k) : seg w i k ≠ [] := by
  intro e
  have := congrArg List.length e
  rw [seg_len] at this
  simp at this
  omega

/-- an expression's flags while labels come, begun at b -/
def run (x : X) (w : Nat → ByteArray) (b : Nat → Bool) : Nat → List Bool
  | 0 => List.replicate x.sz false
  | k + 1 => stepF (w k) x (run x w b k) (b k)
def runS (ks : List X) (w : Nat → ByteArray) (b : Nat → Bool) : Nat → List Bool
  | 0 => List.replicate (szL ks) false
  | k + 1 => (rowS (w k) ks (runS ks w b k) (b k) false).2.2
def runA (ks : List X) (w : Nat → ByteArray) (b : Nat → Bool) : Nat → List Bool
  | 0 => List.replicate (szL ks) false
  | k + 1 => (altS (w k) ks (runA ks w b k) (b k) false).2
theorem run_len {x : X} (hg : x.good) (w : Nat → ByteArray) (b : Nat → Bool) : ∀ k, (run x w b k).length = x.sz
  | 0 => by simp [run]
  | k + 1 => by rw [run]; exact stepF_len _ x hg _ _ (run_len hg w b k)

theorem rowS_e (s : ByteArray) : ∀ (ks : List X) (kf : List Bool) (b e e' : Bool), (rowS s ks kf b e).2.2 = (rowS s ks kf b e').2.2
  | [], kf, b, e, e' => by rw [rowS_nil, rowS_nil]
  | x :: xs, kf, b, e, e' => by
    rw [rowS_cons, rowS_cons]
    simp only
    rw [rowS_e s xs _ _ (hd (stepF s x (kf.take x.sz) b) || (e && x.emp)) (hd (stepF s x (kf.take x.sz) b) || (e' && x.emp))]
theorem altS_acc (s : ByteArray) : ∀ (ks : List X) (kf : List Bool) (b e e' : Bool), (altS s ks kf b e).2 = (altS s ks kf b e').2
  | [], kf, b, e, e' => by rw [altS_nil, altS_nil]
  | x :: xs, kf, b, e, e' => by
    rw [altS_cons, altS_cons]
    simp only
    rw [altS_acc s xs _ _ (e || hd (stepF s x (kf.take x.sz) b)) (e' || hd (stepF s x (kf.take x.sz) b))]

/-- where the next of a row begins -/
def nextB (x : X) (w : Nat → ByteArray) (b : Nat → Bool) (k : Nat) : Bool := hd (run x w b k) || (b k && x.emp)
theorem runS_cons {x : X} (hg : x.good) (xs : List X) (w : Nat → ByteArray) (b : Nat → Bool) : ∀ k, runS (x :: xs) w b k = run x w b k ++ runS xs w (nextB x w b) k
  | 0 => by rw [runS, run, runS, szL_cons, List.replicate_append_replicate]
  | k + 1 => by
    have hl := run_len hg w b k
    rw [runS, runS_cons hg xs w b k, rowS_cons]
    simp only
    rw [List.take_left' hl, List.drop_left' hl, rowS_e (w k) xs _ _ _ false]
    rfl
theorem runA_cons {x : X} (hg : x.good) (xs : List X) (w : Nat → ByteArray) (b : Nat → Bool) : ∀ k, runA (x :: xs) w b k = run x w b k ++ runA xs w b k
  | 0 => by rw [runA, run, runA, szL_cons, List.replicate_append_replicate]
  | k + 1 => by
    have hl := run_len hg w b k
    rw [runA, runA_cons hg xs w b k, altS_cons]
    simp only
    rw [List.take_left' hl, List.drop_left' hl, altS_acc (w k) xs _ _ _ false]
    rfl

/-- an expression takes the empty word just if it may be empty -/
theorem emp_iff : ∀ (x : X), x.good → (x.emp = true ↔ x.L []) := by
  intro x
  induction x using X.ind' with
  | h x ih =>
    intro hg
    have ih' : ∀ y ∈ x.kids, (y.emp = true ↔ y.L []) := fun y hy => ih y hy (hg.kids y hy)
    have hA : ∀ ks : List X, (∀ y ∈ ks, (y.emp = true ↔ y.L [])) → (anyE ks = true ↔ LA ks []) := by
      intro ks
      induction ks with
      | nil => intro _; rw [anyE, LA_nil]; simp
      | cons y ys ihy => intro h; rw [anyE, LA_cons, Bool.or_eq_true, h y (by simp), ihy (fun z hz => h z (by simp [hz]))]
    have hS : ∀ ks : List X, (∀ y ∈ ks, (y.emp = true ↔ y.L [])) → (allE ks = true ↔ LS ks []) := by
      intro ks
      induction ks with
      | nil => intro _; rw [allE, LS_nil]; simp
      | cons y ys ihy =>
        intro h
        rw [allE, LS_cons, Bool.and_eq_true, h y (by simp), ihy (fun z hz => h z (by simp [hz]))]
        constructor
        · rintro ⟨h1, h2⟩; exact ⟨[], [], rfl, h1, h2⟩
        · rintro ⟨p, q, e, h1, h2⟩
          obtain ⟨rfl, rfl⟩ := List.append_eq_nil_iff.1 e.symm
          exact ⟨h1, h2⟩
    have he : x.emp = if x.kind = 4 ∨ x.kind = 6 then true else if x.kind = 3 then anyE x.kids else if x.kind = 2 ∨ x.kind = 5 then allE x.kids else false := by
      cases x; rw [X.emp]; rfl
    rw [he, X.L_eq]
    have hf := hg.fit
    rcases good_kind hg with h | h | h | h
    · simp [h]
    · simp [h, hS _ ih']
    · rcases h with h | h <;> simp [h, hA _ ih']
    · rcases h with h | h
      · simp [h]
      · obtain ⟨y, hy⟩ : ∃ y, x.kids = [y] := by
          unfold X.fits fitB at hf
          simp [h] at hf
          exact List.length_eq_one_iff.1 hf.2
        simp only [h]
        simp only [show ¬((5 : Int) = 4 ∨ (5 : Int) = 6) by decide, show ¬((5 : Int) = 3) by decide, show ((5 : Int) = 2 ∨ (5 : Int) = 5) by decide, show ¬((5 : Int) = 1) by decide, show ¬((5 : Int) = 2) by decide, show ¬((5 : Int) = 6) by decide, show ¬((5 : Int) = 4) by decide, if_true, if_false]
        rw [Pl.nil, hy, allE, allE, LA_cons, LA_nil, ← ih' y (by rw [hy]; simp)]
        simp
end Go.Proofs.YtnccgaanfjaimaaDoor

namespace Go.Proofs.YtnccgaanfjaimaaDoor
open Go.ChangeShapes Go.WideShapes Go.ChangeAt Go.RowKit
set_option linter.unusedVariables false
set_option linter.unusedSimpArgs false

mutual
/-- the labels of an expression, from the left -/
def X.ps : X → List ByteArray
  | .mk k l ks => if k = 1 then [l] else psL ks
def psL : List X → List ByteArray
  | [] => []
  | x :: xs => x.ps ++ psL xs
end
theorem X.ps_eq (x : X) : x.ps = if x.kind = 1 then [x.lab] else psL x.kids := by cases x; rw [X.ps]; rfl
theorem psL_nil : psL [] = [] := by rw [psL]
theorem psL_cons (x : X) (xs : List X) : psL (x :: xs) = x.ps ++ psL xs := by rw [psL]
/-- how many -/
def X.pn (x : X) : Nat := x.ps.length
def pnL (xs : List X) : Nat := (psL xs).length
theorem X.pn_eq (x : X) : x.pn = if x.kind = 1 then 1 else pnL x.kids := by unfold X.pn pnL; rw [X.ps_eq]; split <;> rfl
theorem pnL_nil : pnL [] = 0 := by simp [pnL, psL]
theorem pnL_cons (x : X) (xs : List X) : pnL (x :: xs) = x.pn + pnL xs := by simp [pnL, psL, X.pn]

mutual
/-- first ones, of an expression whose positions begin at a; of a row; of alternatives -/
def X.fst : X → Nat → Nat → Bool
  | .mk k _ ks, a, p => if k = 1 then decide (p = a) else if k = 2 then fstS ks a p else fstA ks a p
def fstS : List X → Nat → Nat → Bool
  | [], _, _ => false
  | x :: xs, a, p => X.fst x a p || (x.emp && fstS xs (a + x.pn) p)
def fstA : List X → Nat → Nat → Bool
  | [], _, _ => false
  | x :: xs, a, p => X.fst x a p || fstA xs (a + x.pn) p
end
mutual
/-- last ones -/
def X.lst : X → Nat → Nat → Bool
  | .mk k _ ks, a, p => if k = 1 then decide (p = a) else if k = 2 then lstS ks a p else lstA ks a p
def lstS : List X → Nat → Nat → Bool
  | [], _, _ => false
  | x :: xs, a, p => (allE xs && X.lst x a p) || lstS xs (a + x.pn) p
def lstA : List X → Nat → Nat → Bool
  | [], _, _ => false
  | x :: xs, a, p => X.lst x a p || lstA xs (a + x.pn) p
end
mutual
/-- q follows p -/
def X.fol : X → Nat → Nat → Nat → Bool
  | .mk k _ ks, a, p, q => if k = 1 then false else if k = 2 then folS ks a p q else folA ks a p q || (decide (k = 4 ∨ k = 5) && (lstA ks a p && fstA ks a q))
def folS : List X → Nat → Nat → Nat → Bool
  | [], _, _, _ => false
  | x :: xs, a, p, q => X.fol x a p q || folS xs (a + x.pn) p q || (x.lst a p && fstS xs (a + x.pn) q)
def folA : List X → Nat → Nat → Nat → Bool
  | [], _, _, _ => false
  | x :: xs, a, p, q => X.fol x a p q || folA xs (a + x.pn) p q
end
theorem X.fst_eq (x : X) (a p : Nat) : x.fst a p = if x.kind = 1 then decide (p = a) else if x.kind = 2 then fstS x.kids a p else fstA x.kids a p := by cases x; rw [X.fst]; rfl
theorem X.lst_eq (x : X) (a p : Nat) : x.lst a p = if x.kind = 1 then decide (p = a) else if x.kind = 2 then lstS x.kids a p else lstA x.kids a p := by cases x; rw [X.lst]; rfl
theorem X.fol_eq (x : X) (a p q : Nat) : x.fol a p q = if x.kind = 1 then false else if x.kind = 2 then folS x.kids a p q else folA x.kids a p q || (decide (x.kind = 4 ∨ x.kind = 5) && (lstA x.kids a p && fstA x.kids a q)) := by cases x; rw [X.fol]; rfl

/-- one lies in a part's range -/
def Inr (f : Nat → Bool) (a b : Nat) : Prop := ∀ p, f p = true → a ≤ p ∧ p < b
theorem fst_in : ∀ (x : X) (a : Nat), Inr (x.fst a) a (a + x.pn) := by
  intro x
  induction x using X.ind' with
  | h x ih =>
    have hS : ∀ ks : List X, (∀ y ∈ ks, ∀ a, Inr (y.fst a) a (a + y.pn)) → ∀ a, Inr (fstS ks a) a (a + pnL ks) := by
      intro ks
      induction ks with
      | nil => intro _ a p h; rw [fstS] at h; cases h
      | cons y ys ihy =>
        intro hy a p h
        rw [fstS, Bool.or_eq_true, Bool.and_eq_true] at h
        rw [pnL_cons]
        rcases h with h | ⟨_, h⟩
        · have := hy y (by simp) a p h; omega
        · have := ihy (fun z hz => hy z (by simp [hz])) _ p h; omega
    have hA : ∀ ks : List X, (∀ y ∈ ks, ∀ a, Inr (y.fst a) a (a + y.pn)) → ∀ a, Inr (fstA ks a) a (a + pnL ks) := by
      intro ks
      induction ks with
      | nil => intro _ a p h; rw [fstA] at h; cases h
      | cons y ys ihy =>
        intro hy a p h
        rw [fstA, Bool.or_eq_true] at h
        rw [pnL_cons]
        rcases h with h | h
        · have := hy y (by simp) a p h; omega
        · have := ihy (fun z hz => hy z (by simp [hz])) _ p h; omega
    intro a p h
    rw [X.fst_eq] at h
    rw [X.pn_eq]
    split at h
    · rename_i h1
      rw [if_pos h1]; simp at h; omega
    · rename_i h1
      rw [if_neg h1]
      split at h
      · exact hS _ ih a p h
      · exact hA _ ih a p h
theorem fstS_in (ks : List X) (a : Nat) : Inr (fstS ks a) a (a + pnL ks) := by
  have h := fst_in (.mk 2 ⟨#[]⟩ ks) a
  intro p hp
  have := h p (by rw [X.fst_eq]; exact hp)
  rw [X.pn_eq] at this
  exact this
theorem fstA_in (ks : List X) (a : Nat) : Inr (fstA ks a) a (a + pnL ks) := by
  have h := fst_in (.mk 3 ⟨#[]⟩ ks) a
  intro p hp
  have := h p (by rw [X.fst_eq]; exact hp)
  rw [X.pn_eq] at this
  exact this
theorem lst_in : ∀ (x : X) (a : Nat), Inr (x.lst a) a (a + x.pn) := by
  intro x
  induction x using X.ind' with
  | h x ih =>
    have hS : ∀ ks : List X, (∀ y ∈ ks, ∀ a, Inr (y.lst a) a (a + y.pn)) → ∀ a, Inr (lstS ks a) a (a + pnL ks) := by
      intro ks
      induction ks with
      | nil => intro _ a p h; rw [lstS] at h; cases h
      | cons y ys ihy =>
        intro hy a p h
        rw [lstS, Bool.or_eq_true, Bool.and_eq_true] at h
        rw [pnL_cons]
        rcases h with ⟨_, h⟩ | h
        · have := hy y (by simp) a p h; omega
        · have := ihy (fun z hz => hy z (by simp [hz])) _ p h; omega
    have hA : ∀ ks : List X, (∀ y ∈ ks, ∀ a, Inr (y.lst a) a (a + y.pn)) → ∀ a, Inr (lstA ks a) a (a + pnL ks) := by
      intro ks
      induction ks with
      | nil => intro _ a p h; rw [lstA] at h; cases h
      | cons y ys ihy =>
        intro hy a p h
        rw [lstA, Bool.or_eq_true] at h
        rw [pnL_cons]
        rcases h with h | h
        · have := hy y (by simp) a p h; omega
        · have := ihy (fun z hz => hy z (by simp [hz])) _ p h; omega
    intro a p h
    rw [X.lst_eq] at h
    rw [X.pn_eq]
    split at h
    · rename_i h1
      rw [if_pos h1]; simp at h; omega
    · rename_i h1
      rw [if_neg h1]
      split at h
      · exact hS _ ih a p h
      · exact hA _ ih a p h
theorem lstS_in (ks : List X) (a : Nat) : Inr (lstS ks a) a (a + pnL ks) := by
  have h := lst_in (.mk 2 ⟨#[]⟩ ks) a
  intro p hp
  have := h p (by rw [X.lst_eq]; exact hp)
  rw [X.pn_eq] at this
  exact this
theorem lstA_in (ks : List X) (a : Nat) : Inr (lstA ks a) a (a + pnL ks) := by
  have h := lst_in (.mk 3 ⟨#[]⟩ ks) a
  intro p hp
  have := h p (by rw [X.lst_eq]; exact hp)
  rw [X.pn_eq] at this
  exact this
/-- both ends lie in a part's range -/
def In2 (f : Nat → Nat → Bool) (a b : Nat) : Prop := ∀ p q, f p q = true → a ≤ p ∧ p < b ∧ a ≤ q ∧ q < b
theorem fol_in : ∀ (x : X) (a : Nat), In2 (x.fol a) a (a + x.pn) := by
  intro x
  induction x using X.ind' with
  | h x ih =>
    have hS : ∀ ks : List X, (∀ y ∈ ks, ∀ a, In2 (y.fol a) a (a + y.pn)) → ∀ a, In2 (folS ks a) a (a + pnL ks) := by
      intro ks
      induction ks with
      | nil => intro _ a p q h; rw [folS] at h; cases h
      | cons y ys ihy =>
        intro hy a p q h
        rw [folS, Bool.or_eq_true, Bool.or_eq_true, Bool.and_eq_true] at h
        rw [pnL_cons]
        rcases h with (h | h) | ⟨h, h'⟩
        · have := hy y (by simp) a p q h; omega
        · have := ihy (fun z hz => hy z (by simp [hz])) _ p q h; omega
        · have := lst_in y a p h; have := fstS_in ys _ q h'; omega
    have hA : ∀ ks : List X, (∀ y ∈ ks, ∀ a, In2 (y.fol a) a (a + y.pn)) → ∀ a, In2 (folA ks a) a (a + pnL ks) := by
      intro ks
      induction ks with
      | nil => intro _ a p q h; rw [folA] at h; cases h
      | cons y ys ihy =>
        intro hy a p q h
        rw [folA, Bool.or_eq_true] at h
        rw [pnL_cons]
        rcases h with h | h
        · have := hy y (by simp) a p q h; omega
        · have := ihy (fun z hz => hy z (by simp [hz])) _ p q h; omega
    intro a p q h
    rw [X.fol_eq] at h
    rw [X.pn_eq]
    split at h
    · cases h
    · rename_i h1
      rw [if_neg h1]
      split at h
      · exact hS _ ih a p q h
      · rw [Bool.or_eq_true, Bool.and_eq_true, Bool.and_eq_true] at h
        rcases h with h | ⟨_, h, h'⟩
        · exact hA _ ih a p q h
        · have := lstA_in _ _ p h; have := fstA_in _ _ q h'; omega
theorem folS_in (ks : List X) (a : Nat) : In2 (folS ks a) a (a + pnL ks) := by
  have h := fol_in (.mk 2 ⟨#[]⟩ ks) a
  intro p q hp
  have := h p q (by rw [X.fol_eq]; exact hp)
  rw [X.pn_eq] at this
  exact this
theorem folA_in (ks : List X) (a : Nat) : In2 (folA ks a) a (a + pnL ks) := by
  have h := fol_in (.mk 3 ⟨#[]⟩ ks) a
  intro p q hp
  have := h p q (by rw [X.fol_eq]; simp [X.kind, X.kids, hp])
  rw [X.pn_eq] at this
  exact this

/-- a walk from p to q over what follows; its word -/
inductive Rn (lb : Nat → ByteArray) (fo : Nat → Nat → Bool) : Nat → Wd → Nat → Prop where
  | one (p : Nat) : Rn lb fo p [lb p] p
  | cons (p q : Nat) (u : Wd) (r : Nat) (h : fo p q = true) (h1 : Rn lb fo q u r) : Rn lb fo p (lb p :: u) r
theorem Rn.ne {lb : Nat → ByteArray} {fo : Nat → Nat → Bool} {p q : Nat} {u : Wd} (h : Rn lb fo p u q) : u ≠ [] := by cases h <;> simp
theorem Rn.mono {lb : Nat → ByteArray} {f g : Nat → Nat → Bool} {p q : Nat} {u : Wd} (h : Rn lb f p u q) (hfg : ∀ a b, f a b = true → g a b = true) : Rn lb g p u q := by
  induction h with
  | one p => exact .one p
  | cons p q u r h h1 ih => exact .cons p q u r (hfg _ _ h) ih
theorem Rn.app {lb : Nat → ByteArray} {fo : Nat → Nat → Bool} {p q r s : Nat} {u v : Wd} (h : Rn lb fo p u q) (hq : fo q r = true) (hr : Rn lb fo r v s) : Rn lb fo p (u ++ v) s := by
  induction h with
  | one p => exact .cons p r v s hq hr
  | cons p q' u q h h1 ih => exact .cons p q' _ s h (ih hq)
/-- the words of walks from a first one to a last one -/
def Acc (lb : Nat → ByteArray) (f l : Nat → Bool) (fo : Nat → Nat → Bool) (u : Wd) : Prop := ∃ p q, f p = true ∧ l q = true ∧ Rn lb fo p u q
theorem Acc.ne {lb : Nat → ByteArray} {f l : Nat → Bool} {fo : Nat → Nat → Bool} {u : Wd} (h : Acc lb f l fo u) : u ≠ [] := by obtain ⟨p, q, _, _, h⟩ := h; exact h.ne

/-- two ranges, side by side: a walk of both -/
theorem Rn.two {lb : Nat → ByteArray} {l1 f2 : Nat → Bool} {fo g1 g2 : Nat → Nat → Bool} {a b c : Nat} (h1 : In2 g1 a b) (h2 : In2 g2 b c) (hl : Inr l1 a b) (hf : Inr f2 b c)
    (hfo : ∀ p q, fo p q = true ↔ g1 p q = true ∨ g2 p q = true ∨ (l1 p = true ∧ f2 q = true)) {p q : Nat} {u : Wd} (h : Rn lb fo p u q) :
    (a ≤ p → p < b → (q < b ∧ a ≤ q ∧ Rn lb g1 p u q) ∨ ∃ u1 u2 m m', u = u1 ++ u2 ∧ Rn lb g1 p u1 m ∧ l1 m = true ∧ f2 m' = true ∧ b ≤ q ∧ q < c ∧ Rn lb g2 m' u2 q) ∧ (b ≤ p → p < c → b ≤ q ∧ q < c ∧ Rn lb g2 p u q) := by
  induction h with
  | one p => exact ⟨fun h h' => .inl ⟨h', h, .one p⟩, fun h h' => ⟨h, h', .one p⟩⟩
  | cons p m u q h0 h3 ih =>
    rcases (hfo p m).1 h0 with h | h | ⟨h, h'⟩
    · have hx := h1 p m h
      refine ⟨fun _ _ => ?_, fun _ _ => by omega⟩
      rcases ih.1 (by omega) (by omega) with ⟨k1, k2, k3⟩ | ⟨u1, u2, m1, m2, rfl, k1, k2, k3, k4, k5, k6⟩
      · exact .inl ⟨k1, k2, .cons p m u q h k3⟩
      · exact .inr ⟨lb p :: u1, u2, m1, m2, rfl, .cons p m u1 m1 h k1, k2, k3, k4, k5, k6⟩
    · have hx := h2 p m h
      refine ⟨fun _ _ => by omega, fun _ _ => ?_⟩
      obtain ⟨k1, k2, k3⟩ := ih.2 (by omega) (by omega)
      exact ⟨k1, k2, .cons p m u q h k3⟩
    · have hx := hl p h
      have hy := hf m h'
      refine ⟨fun _ _ => ?_, fun _ _ => by omega⟩
      obtain ⟨k1, k2, k3⟩ := ih.2 (by omega) (by omega)
      exact .inr ⟨[lb p], u, p, m, rfl, .one p, h, h', k1, k2, k3⟩

/-- one behind the other -/
theorem acc_seq {lb : Nat → ByteArray} {f1 l1 f2 l2 f l : Nat → Bool} {g1 g2 fo : Nat → Nat → Bool} {e1 e2 : Bool} {a b c : Nat} (hf1 : Inr f1 a b) (hl1 : Inr l1 a b) (h1 : In2 g1 a b) (hf2 : Inr f2 b c) (hl2 : Inr l2 b c) (h2 : In2 g2 b c)
    (hf : ∀ p, f p = true ↔ f1 p = true ∨ (e1 = true ∧ f2 p = true)) (hl : ∀ p, l p = true ↔ (e2 = true ∧ l1 p = true) ∨ l2 p = true)
    (hfo : ∀ p q, fo p q = true ↔ g1 p q = true ∨ g2 p q = true ∨ (l1 p = true ∧ f2 q = true)) (u : Wd) :
    Acc lb f l fo u ↔ (e2 = true ∧ Acc lb f1 l1 g1 u) ∨ (e1 = true ∧ Acc lb f2 l2 g2 u) ∨ ∃ v w, u = v ++ w ∧ Acc lb f1 l1 g1 v ∧ Acc lb f2 l2 g2 w := by
  constructor
  · rintro ⟨p, q, hp, hq, h⟩
    have ht := h.two h1 h2 hl1 hf2 hfo
    rcases (hf p).1 hp with hp | ⟨he, hp⟩
    · have hx := hf1 p hp
      rcases ht.1 hx.1 hx.2 with ⟨k1, k2, k3⟩ | ⟨u1, u2, m, m', rfl, k1, k2, k3, k4, k5, k6⟩
      · rcases (hl q).1 hq with ⟨he, hq⟩ | hq
        · exact .inl ⟨he, p, q, hp, hq, k3⟩
        · have := hl2 q hq; omega
      · rcases (hl q).1 hq with ⟨he, hq⟩ | hq
        · have := hl1 q hq; omega
        · exact .inr (.inr ⟨u1, u2, rfl, ⟨p, m, hp, k2, k1⟩, m', q, k3, hq, k6⟩)
    · have hx := hf2 p hp
      obtain ⟨k1, k2, k3⟩ := ht.2 hx.1 hx.2
      rcases (hl q).1 hq with ⟨_, hq⟩ | hq
      · have := hl1 q hq; omega
      · exact .inr (.inl ⟨he, p, q, hp, hq, k3⟩)
  · rintro (⟨he, p, q, hp, hq, h⟩ | ⟨he, p, q, hp, hq, h⟩ | ⟨v, w, rfl, ⟨p, m, hp, hm, h⟩, m', q, hm', hq, h'⟩)
    · exact ⟨p, q, (hf p).2 (.inl hp), (hl q).2 (.inl ⟨he, hq⟩), h.mono fun a b hab => (hfo a b).2 (.inl hab)⟩
    · exact ⟨p, q, (hf p).2 (.inr ⟨he, hp⟩), (hl q).2 (.inr hq), h.mono fun a b hab => (hfo a b).2 (.inr (.inl hab))⟩
    · exact ⟨p, q, (hf p).2 (.inl hp), (hl q).2 (.inr hq), (h.mono fun a b hab => (hfo a b).2 (.inl hab)).app ((hfo _ _).2 (.inr (.inr ⟨hm, hm'⟩))) (h'.mono fun a b hab => (hfo a b).2 (.inr (.inl hab)))⟩

/-- one or the other -/
theorem acc_alt {lb : Nat → ByteArray} {f1 l1 f2 l2 f l : Nat → Bool} {g1 g2 fo : Nat → Nat → Bool} {a b c : Nat} (hf1 : Inr f1 a b) (hl1 : Inr l1 a b) (h1 : In2 g1 a b) (hf2 : Inr f2 b c) (hl2 : Inr l2 b c) (h2 : In2 g2 b c)
    (hf : ∀ p, f p = true ↔ f1 p = true ∨ f2 p = true) (hl : ∀ p, l p = true ↔ l1 p = true ∨ l2 p = true)
    (hfo : ∀ p q, fo p q = true ↔ g1 p q = true ∨ g2 p q = true) (u : Wd) :
    Acc lb f l fo u ↔ Acc lb f1 l1 g1 u ∨ Acc lb f2 l2 g2 u := by
  constructor
  · rintro ⟨p, q, hp, hq, h⟩
    have ht := h.two (l1 := fun _ => false) (f2 := fun _ => false) h1 h2 (fun _ h => by cases h) (fun _ h => by cases h) (fun p q => by rw [hfo]; simp)
    rcases (hf p).1 hp with hp | hp
    · have hx := hf1 p hp
      rcases ht.1 hx.1 hx.2 with ⟨k1, k2, k3⟩ | ⟨u1, u2, m, m', rfl, k1, k2, k3, k4, k5, k6⟩
      · rcases (hl q).1 hq with hq | hq
        · exact .inl ⟨p, q, hp, hq, k3⟩
        · have := hl2 q hq; omega
      · cases k2
    · have hx := hf2 p hp
      obtain ⟨k1, k2, k3⟩ := ht.2 hx.1 hx.2
      rcases (hl q).1 hq with hq | hq
      · have := hl1 q hq; omega
      · exact .inr ⟨p, q, hp, hq, k3⟩
  · rintro (⟨p, q, hp, hq, h⟩ | ⟨p, q, hp, hq, h⟩)
    · exact ⟨p, q, (hf p).2 (.inl hp), (hl q).2 (.inl hq), h.mono fun a b hab => (hfo a b).2 (.inl hab)⟩
    · exact ⟨p, q, (hf p).2 (.inr hp), (hl q).2 (.inr hq), h.mono fun a b hab => (hfo a b).2 (.inr hab)⟩

/-- more and more of one -/
theorem acc_plus {lb : Nat → ByteArray} {f l : Nat → Bool} {g fo : Nat → Nat → Bool} (hfo : ∀ p q, fo p q = true ↔ g p q = true ∨ (l p = true ∧ f q = true)) (u : Wd) :
    Acc lb f l fo u ↔ Pl (Acc lb f l g) u := by
  constructor
  · rintro ⟨p, q, hp, hq, h⟩
    have key : ∃ v m, Rn lb g p v m ∧ l m = true ∧ (u = v ∨ ∃ w, u = v ++ w ∧ Pl (Acc lb f l g) w) := by
      clear hp
      induction h with
      | one p => exact ⟨_, p, .one p, hq, .inl rfl⟩
      | cons p m u q h0 h3 ih =>
        obtain ⟨v, k, h1, h2, h4⟩ := ih hq
        rcases (hfo p m).1 h0 with h | ⟨h, h'⟩
        · refine ⟨lb p :: v, k, .cons p m v k h h1, h2, ?_⟩
          rcases h4 with rfl | ⟨w, rfl, h4⟩
          · exact .inl rfl
          · exact .inr ⟨w, rfl, h4⟩
        · refine ⟨[lb p], p, .one p, h, .inr ⟨u, rfl, ?_⟩⟩
          rcases h4 with rfl | ⟨w, rfl, h4⟩
          · exact .one _ ⟨m, k, h', h2, h1⟩
          · exact .cons ⟨m, k, h', h2, h1⟩ h4
    obtain ⟨v, m, h1, h2, h3⟩ := key
    rcases h3 with rfl | ⟨w, rfl, h3⟩
    · exact .one _ ⟨p, m, hp, h2, h1⟩
    · exact .cons ⟨p, m, hp, h2, h1⟩ h3
  · intro h
    induction h with
    | one p h =>
      obtain ⟨a, b, h1, h2, h3⟩ := h
      exact ⟨a, b, h1, h2, h3.mono fun x y hxy => (hfo x y).2 (.inl hxy)⟩
    | snoc p q h h1 ih =>
      obtain ⟨a, b, k1, k2, k3⟩ := h1
      obtain ⟨c, d, j1, j2, j3⟩ := ih
      exact ⟨c, b, j1, k2, j3.app ((hfo _ _).2 (.inr ⟨j2, k1⟩)) (k3.mono fun x y hxy => (hfo x y).2 (.inl hxy))⟩
/-- what the empty word adds, repeated -/
theorem pl_or {P Q : Wd → Prop} {e : Prop} (hPQ : ∀ u, P u ↔ (u = [] ∧ e) ∨ Q u) (hQ : ∀ u, Q u → u ≠ []) (u : Wd) : Pl P u ↔ (u = [] ∧ e) ∨ Pl Q u := by
  constructor
  · intro h
    induction h with
    | one p h =>
      rcases (hPQ p).1 h with h | h
      · exact .inl h
      · exact .inr (.one _ h)
    | snoc p q h h1 ih =>
      rcases (hPQ q).1 h1 with ⟨rfl, he⟩ | h1
      · rw [List.append_nil]; exact ih
      · rcases ih with ⟨rfl, he⟩ | ih
        · exact .inr (.one _ h1)
        · exact .inr (.snoc _ _ ih h1)
  · rintro (⟨rfl, he⟩ | h)
    · exact .one _ ((hPQ []).2 (.inl ⟨rfl, he⟩))
    · induction h with
      | one p h => exact .one _ ((hPQ p).2 (.inr h))
      | snoc p q h h1 ih => exact .snoc _ _ ih ((hPQ q).2 (.inr h1))

/-- the labels of positions from a on -/
def LbAt (lb : Nat → ByteArray) (a : Nat) (l : List ByteArray) : Prop := ∀ i (h : i < l.length), lb (a + i) = l[i]
theorem LbAt.left {lb : Nat → ByteArray} {a : Nat} {l l' : List ByteArray} (h : LbAt lb a (l ++ l')) : LbAt lb a l := fun i hi => by rw [h i (by simp; omega), List.getElem_append_left hi]
theorem LbAt.right {lb : Nat → ByteArray} {a : Nat} {l l' : List ByteArray} (h : LbAt lb a (l ++ l')) : LbAt lb (a + l.length) l' := fun i hi => by
  have := h (l.length + i) (by simp; omega)
  rw [← Nat.add_assoc] at this
  rw [this, List.getElem_append_right (by omega)]
  congr 1
  omega

/-- walks tell the words -/
def Walks (x : X) : Prop := ∀ (a : Nat) (lb : Nat → ByteArray), LbAt lb a x.ps → ∀ u, x.L u ↔ (u = [] ∧ x.emp = true) ∨ Acc lb (x.fst a) (x.lst a) (x.fol a) u
theorem walksS : ∀ (ks : List X), (∀ y ∈ ks, Walks y) → ∀ (a : Nat) (lb : Nat → ByteArray), LbAt lb a (psL ks) → ∀ u, LS ks u ↔ (u = [] ∧ allE ks = true) ∨ Acc lb (fstS ks a) (lstS ks a) (folS ks a) u
  | [], h, a, lb, hlb, u => by
    rw [LS_nil, allE]
    constructor
    · intro h; exact .inl ⟨h, rfl⟩
    · rintro (h | ⟨p, q, h, _⟩)
      · exact h.1
      · rw [fstS] at h; cases h
  | x :: xs, h, a, lb, hlb, u => by
    rw [psL_cons] at hlb
    have h1 := h x (by simp) a lb hlb.left
    have h2 := walksS xs (fun y hy => h y (by simp [hy])) (a + x.pn) lb hlb.right
    rw [LS_cons, acc_seq (fst_in x a) (lst_in x a) (fol_in x a) (fstS_in xs _) (lstS_in xs _) (folS_in xs _) (e1 := x.emp) (e2 := allE xs) (fun p => by rw [fstS, Bool.or_eq_true, Bool.and_eq_true]) (fun p => by rw [lstS, Bool.or_eq_true, Bool.and_eq_true])
      (fun p q => by rw [folS, Bool.or_eq_true, Bool.or_eq_true, Bool.and_eq_true, or_assoc])]
    rw [show allE (x :: xs) = (x.emp && allE xs) by rw [allE], Bool.and_eq_true]
    constructor
    · rintro ⟨p, q, rfl, hp, hq⟩
      rcases (h1 p).1 hp with ⟨rfl, he⟩ | hp
      · rcases (h2 q).1 hq with ⟨rfl, he'⟩ | hq
        · exact .inl ⟨rfl, he, he'⟩
        · exact .inr (.inr (.inl ⟨he, by simpa using hq⟩))
      · rcases (h2 q).1 hq with ⟨rfl, he'⟩ | hq
        · exact .inr (.inl ⟨he', by simpa using hp⟩)
        · exact .inr (.inr (.inr ⟨p, q, rfl, hp, hq⟩))
    · rintro (⟨rfl, he, he'⟩ | ⟨he, hu⟩ | ⟨he, hu⟩ | ⟨p, q, rfl, hp, hq⟩)
      · exact ⟨[], [], rfl, (h1 []).2 (.inl ⟨rfl, he⟩), (h2 []).2 (.inl ⟨rfl, he'⟩)⟩
      · exact ⟨u, [], by simp, (h1 u).2 (.inr hu), (h2 []).2 (.inl ⟨rfl, he⟩)⟩
      · exact ⟨[], u, by simp, (h1 []).2 (.inl ⟨rfl, he⟩), (h2 u).2 (.inr hu)⟩
      · exact ⟨p, q, rfl, (h1 p).2 (.inr hp), (h2 q).2 (.inr hq)⟩
theorem walksA : ∀ (ks : List X), (∀ y ∈ ks, Walks y) → ∀ (a : Nat) (lb : Nat → ByteArray), LbAt lb a (psL ks) → ∀ u, LA ks u ↔ (u = [] ∧ anyE ks = true) ∨ Acc lb (fstA ks a) (lstA ks a) (folA ks a) u
  | [], h, a, lb, hlb, u => by
    rw [LA_nil, anyE]
    constructor
    · intro h; exact h.elim
    · rintro (h | ⟨p, q, h, _⟩)
      · cases h.2
      · rw [fstA] at h; cases h
  | x :: xs, h, a, lb, hlb, u => by
    rw [psL_cons] at hlb
    have h1 := h x (by simp) a lb hlb.left
    have h2 := walksA xs (fun y hy => h y (by simp [hy])) (a + x.pn) lb hlb.right
    rw [LA_cons, acc_alt (fst_in x a) (lst_in x a) (fol_in x a) (fstA_in xs _) (lstA_in xs _) (folA_in xs _) (fun p => by rw [fstA, Bool.or_eq_true]) (fun p => by rw [lstA, Bool.or_eq_true])
      (fun p q => by rw [folA, Bool.or_eq_true])]
    rw [show anyE (x :: xs) = (x.emp || anyE xs) by rw [anyE], Bool.or_eq_true, h1 u, h2 u]
    constructor
    · rintro ((⟨h, h'⟩ | h) | (⟨h, h'⟩ | h))
      · exact .inl ⟨h, .inl h'⟩
      · exact .inr (.inl h)
      · exact .inl ⟨h, .inr h'⟩
      · exact .inr (.inr h)
    · rintro (⟨h, h' | h'⟩ | h | h)
      · exact .inl (.inl ⟨h, h'⟩)
      · exact .inr (.inl ⟨h, h'⟩)
      · exact .inl (.inr h)
      · exact .inr (.inr h)
theorem X.emp_eq (x : X) : x.emp = if x.kind = 4 ∨ x.kind = 6 then true else if x.kind = 3 then anyE x.kids else if x.kind = 2 ∨ x.kind = 5 then allE x.kids else false := by cases x; rw [X.emp]; rfl

/-- of what is good -/
theorem walks_any : ∀ x : X, x.good → Walks x := by
  intro x
  induction x using X.ind' with
  | h x ih =>
    intro hg
    have ih' : ∀ y ∈ x.kids, Walks y := fun y hy => ih y hy (hg.kids y hy)
    have hf := hg.fit
    intro a lb hlb u
    rw [X.ps_eq] at hlb
    have e1 : x.fst a = fun p => if x.kind = 1 then decide (p = a) else if x.kind = 2 then fstS x.kids a p else fstA x.kids a p := funext fun p => X.fst_eq x a p
    have e2 : x.lst a = fun p => if x.kind = 1 then decide (p = a) else if x.kind = 2 then lstS x.kids a p else lstA x.kids a p := funext fun p => X.lst_eq x a p
    have e3 : x.fol a = fun p q => if x.kind = 1 then false else if x.kind = 2 then folS x.kids a p q else folA x.kids a p q || (decide (x.kind = 4 ∨ x.kind = 5) && (lstA x.kids a p && fstA x.kids a q)) := funext fun p => funext fun q => X.fol_eq x a p q
    rw [X.L_eq, X.emp_eq, e1, e2, e3]
    have hone : x.kind = 4 ∨ x.kind = 5 ∨ x.kind = 6 → ∃ y, x.kids = [y] := by
      intro h
      unfold X.fits fitB at hf
      rcases h with h | h | h <;> simp [h] at hf <;> exact List.length_eq_one_iff.1 hf.2
    have hpl := fun (hk : LbAt lb a (psL x.kids)) => walksA x.kids ih' a lb hk
    rcases good_kind hg with h | h | h | h
    · simp only [h, if_true] at hlb ⊢
      simp only [show ¬((1 : Int) = 4 ∨ (1 : Int) = 6) by decide, show ¬((1 : Int) = 3) by decide, show ¬((1 : Int) = 2 ∨ (1 : Int) = 5) by decide, if_false]
      have hl0 : lb a = x.lab := by simpa using hlb 0 (by simp)
      constructor
      · rintro rfl
        exact .inr ⟨a, a, by simp, by simp, by rw [← hl0]; exact .one a⟩
      · rintro (⟨_, h⟩ | ⟨p, q, hp, hq, hr⟩)
        · cases h
        · simp at hp hq
          subst hp
          cases hr with
          | one => rw [hl0]
          | cons p m u q h0 h1 => cases h0
    · simp only [h] at hlb ⊢
      simp only [show ¬((2 : Int) = 1) by decide, show ¬((2 : Int) = 4 ∨ (2 : Int) = 6) by decide, show ¬((2 : Int) = 3) by decide, show ((2 : Int) = 2 ∨ (2 : Int) = 5) by decide, if_false, if_true] at hlb ⊢
      exact walksS x.kids ih' a lb hlb u
    · rcases h with h | h
      · simp only [h] at hlb ⊢
        simp only [show ¬((3 : Int) = 1) by decide, show ¬((3 : Int) = 2) by decide, show ¬((3 : Int) = 4 ∨ (3 : Int) = 6) by decide, show ¬((3 : Int) = 4 ∨ (3 : Int) = 5) by decide, if_false, if_true, decide_false, Bool.false_and, Bool.or_false] at hlb ⊢
        exact walksA x.kids ih' a lb hlb u
      · obtain ⟨y, hy⟩ := hone (by omega)
        simp only [h] at hlb ⊢
        simp only [show ¬((6 : Int) = 1) by decide, show ¬((6 : Int) = 2) by decide, show ¬((6 : Int) = 3) by decide, show ((6 : Int) = 4 ∨ (6 : Int) = 6) by decide, show ¬((6 : Int) = 4 ∨ (6 : Int) = 5) by decide, if_false, if_true, decide_false, Bool.false_and, Bool.or_false] at hlb ⊢
        rw [hpl hlb u]
        constructor
        · rintro (h | ⟨h, _⟩ | h)
          · exact .inl ⟨h, rfl⟩
          · exact .inl ⟨h, rfl⟩
          · exact .inr h
        · rintro (⟨h, _⟩ | h)
          · exact .inl h
          · exact .inr (.inr h)
    · rcases h with h | h
      · simp only [h] at hlb ⊢
        simp only [show ¬((4 : Int) = 1) by decide, show ¬((4 : Int) = 2) by decide, show ¬((4 : Int) = 3) by decide, show ¬((4 : Int) = 6) by decide, show ((4 : Int) = 4 ∨ (4 : Int) = 6) by decide, show ((4 : Int) = 4 ∨ (4 : Int) = 5) by decide, if_false, if_true, decide_true, Bool.true_and] at hlb ⊢
        rw [acc_plus (g := folA x.kids a) (fun p q => by simp [Bool.or_eq_true, Bool.and_eq_true]), pl_or (hpl hlb) (fun u h => h.ne)]
        constructor
        · rintro (h | ⟨h, _⟩ | h)
          · exact .inl ⟨h, rfl⟩
          · exact .inl ⟨h, rfl⟩
          · exact .inr h
        · rintro (⟨h, _⟩ | h)
          · exact .inl h
          · exact .inr (.inr h)
      · obtain ⟨y, hy⟩ := hone (by omega)
        simp only [h] at hlb ⊢
        simp only [show ¬((5 : Int) = 1) by decide, show ¬((5 : Int) = 2) by decide, show ¬((5 : Int) = 3) by decide, show ¬((5 : Int) = 6) by decide, show ¬((5 : Int) = 4) by decide, show ¬((5 : Int) = 4 ∨ (5 : Int) = 6) by decide, show ((5 : Int) = 2 ∨ (5 : Int) = 5) by decide, show ((5 : Int) = 4 ∨ (5 : Int) = 5) by decide, if_false, if_true, decide_true, Bool.true_and] at hlb ⊢
        rw [acc_plus (g := folA x.kids a) (fun p q => by simp [Bool.or_eq_true, Bool.and_eq_true]), pl_or (hpl hlb) (fun u h => h.ne)]
        rw [show anyE x.kids = allE x.kids by rw [hy, anyE, anyE, allE, allE]; simp]
        simp only [false_or, or_true, if_true, if_false, or_self]
end Go.Proofs.YtnccgaanfjaimaaDoor
