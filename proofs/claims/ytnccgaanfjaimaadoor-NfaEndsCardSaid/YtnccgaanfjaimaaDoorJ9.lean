/- Texts ZF, ZG, ZJ, one behind the other. -/
import Derived.Test.YtnccgaanfjaimaaDoorJ6
set_option linter.unusedSimpArgs false
set_option linter.unusedVariables false
namespace Go.Proofs.YtnccgaanfjaimaaDoor
open Go.ChangeShapes Go.WideShapes Go.ChangeAt Go.RowKit
set_option linter.unusedVariables false
set_option linter.unusedSimpArgs false

/-- the positions of an expression are added -/
def AddR (x : X) (w : World) (B N : Nat) (sv : Value) (s : NS) (la : Nat) (em : Bool) (e : Ending) (w' : World) : Prop :=
 ∃ lv', e = .returned (.agg #[.int .u32 ((addX x s).2.1 : Int), .int .u32 ((addX x s).2.2 : Int)]) ∧ NfB w' B N sv lv' (addX x s).1 la em ∧ Kn B w w'
def AddC (x : X) : Prop := ∀ (M B N : Nat) (sv lv : Value) (s : NS) (la : Nat) (em : Bool) (w : World) (v : Value), XV M w v x → M ≤ B → B ≤ w.heap.size → NfB w B N sv lv s la em → Tb w → Bd s → s.labs.length + x.pn ≤ 25 →
 Calls Tryd.prog 43 #[.pointer (some ⟨N, 0, none⟩), v] w (AddR x w B N sv s la em)

/-- a box of three, filled -/
theorem box_filled {W : World} {t : TypeId} {a b c a' b' c' : Value} : ((((W.alloc (.cells #[a', b', c'] t)).setCell ⟨W.heap.size, 0, none⟩ a).setCell ⟨W.heap.size, 1, none⟩ b).setCell ⟨W.heap.size, 2, none⟩ c).heap[W.heap.size]? = some (.cells #[a, b, c] t (0, 0)) ∧
  Below W.heap.size W ((((W.alloc (.cells #[a', b', c'] t)).setCell ⟨W.heap.size, 0, none⟩ a).setCell ⟨W.heap.size, 1, none⟩ b).setCell ⟨W.heap.size, 2, none⟩ c) :=
 ⟨heap_set (k := 2) (heap_set (k := 1) (heap_set (k := 0) (at_push W (.cells #[a', b', c'] t)) a) b) c, ((((Below.refl _ W).alloc (Nat.le_refl _) _).setCell (p := ⟨W.heap.size, 0, none⟩) (Nat.le_refl _) a).setCell (p := ⟨W.heap.size, 1, none⟩) (Nat.le_refl _) b).setCell (p := ⟨W.heap.size, 2, none⟩) (Nat.le_refl _) c⟩
theorem brd_set {r wk : World} {B N p9 f g : Nat} {sv lv : Value} {s : NS} {la : Nat} {em : Bool} (hn : NfB r B N sv lv s la em) (hk : Kn B wk r) {a b : Value} (hb : r.heap[p9]? = some (.cells #[a, b] 74 (0, 0))) (hp : wk.heap.size ≤ p9) (hB : B ≤ wk.heap.size) :
  NfB ((r.setCell ⟨p9, 0, none⟩ (.int .u32 (f : Int))).setCell ⟨p9, 1, none⟩ (.int .u32 (g : Int))) B N sv lv s la em ∧ ((r.setCell ⟨p9, 0, none⟩ (.int .u32 (f : Int))).setCell ⟨p9, 1, none⟩ (.int .u32 (g : Int))).heap[p9]? = some (.cells #[.int .u32 (f : Int), .int .u32 (g : Int)] 74 (0, 0)) ∧
  Kn B wk ((r.setCell ⟨p9, 0, none⟩ (.int .u32 (f : Int))).setCell ⟨p9, 1, none⟩ (.int .u32 (g : Int))) ∧ wk.heap.size ≤ p9 := by
 have h0 := heap_set (k := 0) hb (.int .u32 (f : Int))
 exact ⟨(hn.other hb (by decide) (by decide) _).other h0 (by decide) (by decide) _, heap_set (k := 1) h0 _, (hk.set_new hp (by omega) _).set_new hp (by omega) _, hp⟩
theorem lit_kid {x y : X} (h : x.lit) (hy : y ∈ x.kids) : y.lit := by
 intro p hp
 refine h p ?_
 rw [X.parts_eq]
 refine List.mem_cons_of_mem _ ?_
 generalize x.kids = ks at hy
 induction ks with
 | nil => cases hy
 | cons z zs ih =>
  rw [partsL_cons]
  rcases List.mem_cons.1 hy with rfl | hy
  ·exact List.mem_append_left _ hp
  ·exact List.mem_append_right _ (ih hy)
theorem pnL_drop {ks : List X} {k : Nat} (h : k < ks.length) : pnL (ks.drop k) = ks[k].pn + pnL (ks.drop (k + 1)) := by
 rw [List.drop_eq_getElem_cons h, pnL_cons]

/-- a row of parts under way: the Nfa; the border to be told; the border so far -/
structure Wh (w : World) (B N : Nat) (sv lv : Value) (s : NS) (la : Nat) (em : Bool) (r4 r5 F L : Nat) (W : World) : Prop where
 nb : NfB W B N sv lv s la em
 kn : Kn B w W
 b4 : W.heap[r4]? = some (.cells #[.int .u32 0, .int .u32 0] 74 (0, 0))
 b5 : W.heap[r5]? = some (.cells #[.int .u32 (F : Int), .int .u32 (L : Int)] 74 (0, 0))
theorem Wh.kept {w W W' : World} {B N : Nat} {sv lv lv' : Value} {s s' : NS} {la : Nat} {em : Bool} {r4 r5 F L : Nat} (h : Wh w B N sv lv s la em r4 r5 F L W) (hn : NfB W' B N sv lv' s' la em) (hk : Kn B W W') : Wh w B N sv lv' s' la em r4 r5 F L W' :=
 ⟨hn, h.kn.trans hk, hk.cells _ _ _ _ h.b4 (by decide) (by decide) (by decide), hk.cells _ _ _ _ h.b5 (by decide) (by decide) (by decide)⟩
theorem Wh.set0 {w W : World} {B N : Nat} {sv lv : Value} {s : NS} {la : Nat} {em : Bool} {r4 r5 F L : Nat} (h : Wh w B N sv lv s la em r4 r5 F L W) (h5 : w.heap.size ≤ r5) (hB : B ≤ w.heap.size) (h45 : r4 ≠ r5) (F' : Nat) : Wh w B N sv lv s la em r4 r5 F' L (W.setCell ⟨r5, 0, none⟩ (.int .u32 (F' : Int))) :=
 ⟨h.nb.other h.b5 (by decide) (by decide) _, h.kn.set_new h5 (by omega) _, (Below.heap_setCell _ _ _ _ h45).trans h.b4, heap_set (k := 0) h.b5 _⟩
theorem Wh.set1 {w W : World} {B N : Nat} {sv lv : Value} {s : NS} {la : Nat} {em : Bool} {r4 r5 F L : Nat} (h : Wh w B N sv lv s la em r4 r5 F L W) (h5 : w.heap.size ≤ r5) (hB : B ≤ w.heap.size) (h45 : r4 ≠ r5) (L' : Nat) : Wh w B N sv lv s la em r4 r5 F L' (W.setCell ⟨r5, 1, none⟩ (.int .u32 (L' : Int))) :=
 ⟨h.nb.other h.b5 (by decide) (by decide) _, h.kn.set_new h5 (by omega) _, (Below.heap_setCell _ _ _ _ h45).trans h.b4, heap_set (k := 1) h.b5 _⟩

set_option maxRecDepth 100000 in
set_option maxHeartbeats 8000000 in
theorem addRow_any {ks : List X} (hks : ∀ y ∈ ks, AddC y ∧ y.right = true ∧ y.lit ∧ y.sz ≤ 100000) {M B N : Nat} {sv lv : Value} {s : NS} {la : Nat} {em : Bool} {w : World} {v : Value} (hx : XR M w v ks) (hM : M ≤ B) (hB : B ≤ w.heap.size) (hN : NfB w B N sv lv s la em) (hT : Tb w) (hbd : Bd s)
  (hpn : s.labs.length + pnL ks ≤ 25) (hlen : ks.length ≤ 1000) :
  Calls Tryd.prog 67 #[.pointer (some ⟨N, 0, none⟩), v] w fun e w' => ∃ lv', e = .returned (.agg #[.int .u32 ((addR ks s 0 0 true).2.1 : Int), .int .u32 ((addR ks s 0 0 true).2.2 : Int)]) ∧ NfB w' B N sv lv' (addR ks s 0 0 true).1 la em ∧ Kn B w w' := by
 obtain ⟨A, c, rfl⟩ := hx.form
 have HKS := Lib.hid hks
 have HX := Lib.hid hx
 have hb1 : Below w.heap.size w ((w.alloc (.cells #[.int .u32 0, .int .u32 0] 74)).alloc (.cells #[.int .u32 0, .int .u32 0] 74)) := ((Below.refl _ w).alloc (Nat.le_refl _) _).alloc (by simp) _
 have hx0 : ((w.alloc (.cells #[.int .u32 0, .int .u32 0] 74)).alloc (.cells #[.int .u32 0, .int .u32 0] 74)).heap[w.heap.size]? = some (.cells #[.int .u32 0, .int .u32 0] 74 (0, 0)) := (Below.heap_alloc _ _ _ (by simp)).trans (at_push w _)
 have hx1 : ((w.alloc (.cells #[.int .u32 0, .int .u32 0] 74)).alloc (.cells #[.int .u32 0, .int .u32 0] 74)).heap[w.heap.size + 1]? = some (.cells #[.int .u32 0, .int .u32 0] 74 (0, 0)) := by
  have h := at_push (w.alloc (.cells #[.int .u32 0, .int .u32 0] 74)) (.cells #[.int .u32 0, .int .u32 0] 74)
  rwa [World.size_alloc] at h
 have Q0 := Lib.hid (And.intro (hN.bel hb1) (And.intro (Kn.of_below hb1 hB) (And.intro hx0 hx1)))
 have HB := Lib.hid hB
 have HT := Lib.hid hT
 have HBD := Lib.hid hbd
 have HPN := Lib.hid hpn
 have HPOS := Lib.hid hN.pos
 have HM := Lib.hid hM
 obtain ⟨n, hn⟩ : ∃ n, ks.length = n := ⟨_, rfl⟩
 have HN := Lib.hid hn
 rw [hn] at hlen ⊢
 clear hks hx hb1 hx0 hx1 hB hN hT hbd hpn hM hn
 go_enter Tryd.func67, Tryd.ntmps67
 go_upto_region 4 with (fail)
 obtain ⟨W0, hW0⟩ : ∃ x, (w.alloc (.cells #[.int .u32 0, .int .u32 0] 74)).alloc (.cells #[.int .u32 0, .int .u32 0] 74) = x := ⟨_, rfl⟩
 rw [hW0] at Q0
 try rw [hW0]
 clear hW0
 go_loopw [6, 13] (fun a i wr => ∃ (k : Nat) (lv' : Value) (s1 : NS) (F L : Nat) (ab : Bool), k ≤ n ∧ i = .int .i64 k ∧ a = .bool ab ∧ Wh w B N sv lv' s1 la em w.heap.size (w.heap.size + 1) F L wr ∧
  addR (ks.drop k) s1 F L ab = addR ks s 0 0 true ∧ Bd s1 ∧ s1.labs.length + pnL (ks.drop k) ≤ 25 ∧ F < 2 ^ s1.labs.length ∧ L < 2 ^ s1.labs.length) (fun _ i _ => n - (intOf i).toNat)
 case atStart => exact ⟨0, _, s, 0, 0, true, Nat.zero_le _, rfl, rfl, ⟨Q0.out.1, Q0.out.2.1, Q0.out.2.2.1, Q0.out.2.2.2⟩, rfl, HBD.out, HPN.out, Nat.two_pow_pos _, Nat.two_pow_pos _⟩
 case round =>
  obtain ⟨k, lv, s1, F, L, ab, hk, rfl, rfl, hwh, hmath, hbd, hpn, hF, hL⟩ := hrel
  have hnb := hwh.nb
  have hkw := hwh.kn
  by_cases hlt : k < n
  ·have e1 : k < ks.length := by have := HN.out; omega
   obtain ⟨ad, kv, f1, _, q0, q1, q2, q3⟩ := XR.at3 (HX.out.bel (hkw.below.mono HM.out)) e1
   subst f1
   obtain ⟨A4, c4, e4⟩ := q3.form
   obtain ⟨m4, hm4⟩ : ∃ x, ks[k].kids.length = x := ⟨_, rfl⟩
   rw [hm4] at e4
   clear hm4
   subst e4
   obtain ⟨hadd, hyr, hyl, hys⟩ := HKS.out ks[k] (List.getElem_mem e1)
   have hxv : XV M wr (.agg #[.int .i64 ks[k].kind, .string ks[k].lab, .slice A4 m4 c4]) ks[k] := ⟨_, rfl, q3⟩
   have hmath' : addR (ks.drop (k + 1)) ⟨(addX ks[k] s1).1.labs, lnk (addX ks[k] s1).1.fol L (addX ks[k] s1).2.1⟩ (if ab then F ||| (addX ks[k] s1).2.1 else F) ((if ks[k].emp then L else 0) ||| (addX ks[k] s1).2.2) (ab && ks[k].emp) = addR ks s 0 0 true := by
    rw [← hmath, List.drop_eq_getElem_cons e1, addR_cons]
   rw [pnL_drop e1] at hpn
   obtain ⟨b1, b2, b3, b4⟩ := addX_bd ks[k] hbd
   have HADD0 := Lib.hid hadd
   have HXV := Lib.hid hxv
   have HBR := Lib.hid (Nat.le_trans HB.out hkw.size)
   have HTB := Lib.hid (HT.out.low (hkw.low 0 HPOS.out))
   have HNB := Lib.hid hnb
   have HBD1 := Lib.hid hbd
   have HPN1 := Lib.hid hpn
   have HYR := Lib.hid (And.intro hyr (And.intro hyl hys))
   have HKW := Lib.hid hkw
   have HWH := Lib.hid hwh
   have HMATH := Lib.hid hmath'
   have hlen25 : s1.labs.length ≤ 25 := by omega
   have hl25' : (addX ks[k] s1).1.labs.length ≤ 25 := by omega
   have HL25 := Lib.hid (Nat.lt_of_lt_of_le hL (Nat.pow_le_pow_right (by decide) hlen25) : L < 2 ^ 25)
   have hF25 : F < 2 ^ 25 := Nat.lt_of_lt_of_le hF (Nat.pow_le_pow_right (by decide) hlen25)
   have hf25 : (addX ks[k] s1).2.1 < 2 ^ 25 := Nat.lt_of_lt_of_le b2 (Nat.pow_le_pow_right (by decide) hl25')
   have hg25 : (addX ks[k] s1).2.2 < 2 ^ 25 := Nat.lt_of_lt_of_le b3 (Nat.pow_le_pow_right (by decide) hl25')
   have HFO1 := Lib.hid (fun p => Nat.lt_of_lt_of_le (b1 p) (Nat.pow_le_pow_right (by decide) (by omega) : (2 : Nat) ^ _ ≤ 2 ^ 32))
   have HG32 := Lib.hid (Nat.lt_of_lt_of_le hf25 (by decide) : (addX ks[k] s1).2.1 < 2 ^ 32)
   have HOR1 := Lib.hid (u32_or F (addX ks[k] s1).2.1 (by omega) (by omega))
   have HOR2 := Lib.hid (u32_or L (addX ks[k] s1).2.2 (by have := HL25.out; omega) (by omega))
   have HOR3 := Lib.hid (show bits .or .u32 (0 : Int) ((addX ks[k] s1).2.2 : Int) = ((0 ||| (addX ks[k] s1).2.2 : Nat) : Int) from u32_or 0 (addX ks[k] s1).2.2 (by omega) (by omega))
   have hFl : F < 2 ^ (addX ks[k] s1).1.labs.length := Nat.lt_of_lt_of_le hF (Nat.pow_le_pow_right (by decide) (by omega))
   have hLl : L < 2 ^ (addX ks[k] s1).1.labs.length := Nat.lt_of_lt_of_le hL (Nat.pow_le_pow_right (by decide) (by omega))
   have HBND := Lib.hid (show Bd ⟨(addX ks[k] s1).1.labs, lnk (addX ks[k] s1).1.fol L (addX ks[k] s1).2.1⟩ ∧ (addX ks[k] s1).1.labs.length + pnL (ks.drop (k + 1)) ≤ 25 ∧ (F ||| (addX ks[k] s1).2.1) < 2 ^ (addX ks[k] s1).1.labs.length ∧ F < 2 ^ (addX ks[k] s1).1.labs.length ∧ (L ||| (addX ks[k] s1).2.2) < 2 ^ (addX ks[k] s1).1.labs.length ∧ (0 ||| (addX ks[k] s1).2.2) < 2 ^ (addX ks[k] s1).1.labs.length
    from ⟨fun p => lnk_lt b1 b2 p, by omega, Nat.or_lt_two_pow hFl b2, hFl, Nat.or_lt_two_pow hLl b3, by rw [Nat.zero_or]; exact b3⟩)
   clear hFl hLl hadd hxv hnb hkw hwh hmath hmath' hbd hpn hF hL b1 b2 b3 b4 hyr hyl hys q3 hf25 hg25 hF25 hlen25 hl25'
   go_upto_region 6 with (fail)
   have hb8 := at_push wr (.cells #[.int .i64 ks[k].kind, .string ks[k].lab, .slice A4 m4 c4] 25)
   have hbk := (Below.refl _ wr).alloc (Nat.le_refl _) (.cells #[.int .i64 ks[k].kind, .string ks[k].lab, .slice A4 m4 c4] 25)
   obtain ⟨wk, hwk⟩ : ∃ x, wr.alloc (.cells #[.int .i64 ks[k].kind, .string ks[k].lab, .slice A4 m4 c4] 25) = x := ⟨_, rfl⟩
   rw [hwk] at hb8 hbk ⊢
   clear hwk q0 q1 q2
   have HBK := Lib.hid (Nat.le_trans HBR.out hbk.size)
   have HNK := Lib.hid (HNB.out.bel hbk)
   have HKWK := Lib.hid (Kn.of_below hbk HBR.out)
   have HXVK := Lib.hid (HXV.out.bel (hbk.mono (Nat.le_trans HM.out HBR.out)))
   have HS := Lib.hid (fun W (hW : Kn B wk W) => show W.cell? ⟨wr.heap.size, 0, none⟩ = some (.int .i64 ks[k].kind) ∧ W.cell? ⟨wr.heap.size, 1, none⟩ = some (.string ks[k].lab) ∧ W.cell? ⟨wr.heap.size, 2, none⟩ = some (.slice A4 m4 c4) by
    have h := hW.cells _ _ _ _ hb8 (by decide) (by decide) (by decide)
    exact ⟨cell_of_row _ _ 0 _ 25 (0, 0) h, cell_of_row _ _ 1 _ 25 (0, 0) h, cell_of_row _ _ 2 _ 25 (0, 0) h⟩)
   have HADD := Lib.hid (fun W (hW : Kn B wk W) (hn : NfB W B N sv lv s1 la em) => HADD0.out M B N sv lv s1 la em W (.agg #[.int .i64 ks[k].kind, .string ks[k].lab, .slice A4 m4 c4]) (HXVK.out.bel (hW.below.mono HM.out)) HM.out (Nat.le_trans HBK.out hW.size) hn (HTB.out.low (((HKWK.out.trans hW).low 0 HPOS.out))) HBD1.out (by have := HPN1.out; omega))
   have HEMP := Lib.hid (fun W (hW : Kn B wk W) => show Calls Tryd.prog 40 #[.agg #[.int .i64 ks[k].kind, .string ks[k].lab, .slice A4 m4 c4]] W fun e w' => e = .returned (.bool ks[k].emp) ∧ Below W.heap.size W w' by
    have h := empty18_any (HXVK.out.bel (hW.below.mono HM.out)) (Nat.le_trans HM.out (Nat.le_trans HBK.out hW.size)) HYR.out.2.2 HYR.out.2.1
    rw [HYR.out.1, Bool.true_and] at h
    exact h)
   unfold AddR at HADD
   have HWK := Lib.hid (HWH.out.kept (HWH.out.nb.bel hbk) HKWK.out)
   clear hbk hb8
   obtain ⟨E8, hE8⟩ : ∃ x, wr.heap.size = x := ⟨_, rfl⟩
   rw [hE8] at HS ⊢
   clear hE8
   generalize hxk : ks[k] = xk at *
   obtain ⟨kk, hkk⟩ : ∃ x, xk.kind = x := ⟨_, rfl⟩
   obtain ⟨kl, hkl⟩ : ∃ x, xk.lab = x := ⟨_, rfl⟩
   obtain ⟨f, hf⟩ : ∃ x, (addX xk s1).2.1 = x := ⟨_, rfl⟩
   obtain ⟨g, hg⟩ : ∃ x, (addX xk s1).2.2 = x := ⟨_, rfl⟩
   obtain ⟨eb, heb⟩ : ∃ x, xk.emp = x := ⟨_, rfl⟩
   rw [hkk, hkl] at HS HADD HEMP ⊢
   rw [hf, hg] at HADD
   rw [heb] at HEMP
   rw [hf] at HG32 HOR1
   rw [hg] at HOR2 HOR3
   rw [hf, hg, heb] at HMATH
   rw [hf, hg] at HBND
   clear hkk hkl hf hg heb hxk
   obtain ⟨r0, hr0⟩ : ∃ x, wk.drew = x := ⟨_, rfl⟩
   have P0 := Lib.hid (show Kn B wk r0 by rw [← hr0]; exact Kn.of_below (Below.refl _ wk).drew HBK.out)
   have N0 := Lib.hid (show NfB r0 B N sv lv s1 la em by rw [← hr0]; exact HNK.out.bel (Below.refl _ wk).drew)
   refine wp_region_noPanic ?_
   refine wp_region_held_drew (S := fun W => W.cell? ⟨E8, 0, none⟩ = some (.int .i64 kk) ∧ W.cell? ⟨E8, 1, none⟩ = some (.string kl) ∧ W.cell? ⟨E8, 2, none⟩ = some (.slice A4 m4 c4)) (by kernel_rfl) (by rw [hr0]; exact HS.out _ P0.out) (fun hHeld => ?_)
   clear hHeld
   rw [hr0]
   clear hr0
   refine tkI (i := 0) (v := .pointer (some ⟨N, 0, none⟩)) rfl ⟨by rfl, ?_⟩ (HS.out _ P0.out) ?_
   ·intro w hSw
    obtain ⟨hs0, hs1, hs2⟩ := hSw
    go_simp
   try simp only [Act.put, z1, z2, z3, z4, z5, z6]
   refine tkI (i := 1) (v := .agg #[.int .i64 kk, .string kl, .slice A4 m4 c4]) rfl ⟨by rfl, ?_⟩ (HS.out _ P0.out) ?_
   ·intro w hSw
    obtain ⟨hs0, hs1, hs2⟩ := hSw
    go_simp
   try simp only [Act.put, z1, z2, z3, z4, z5, z6]
   refine tkI (i := 3) (v := .agg #[.int .i64 kk, .string kl, .slice A4 m4 c4]) rfl ⟨by rfl, ?_⟩ (HS.out _ P0.out) ?_
   ·intro w hSw
    obtain ⟨hs0, hs1, hs2⟩ := hSw
    go_simp
   try simp only [Act.put, z1, z2, z3, z4, z5, z6]
   refine wpAnyH_ready (rs := [2, 5]) (by kernel_rfl) (by simp) ?_
   refine AllReadyH.cons rfl (fun K hK => ?_) (AllReadyH.cons rfl (fun K hK => ?_) (AllReadyH.nil))
   ·go_simp
    refine (HADD.out _ P0.out N0.out).mono ?_
    rintro e r1 ⟨lv6, rfl, hnb, hkn⟩
    have P1 := Lib.hid (P0.out.trans hkn)
    have N1 := Lib.hid hnb
    clear hnb hkn
    refine hK.out _ _ (HS.out _ P1.out) (fun _ => ?_)
    clear hK
    try simp only [Act.put, z1, z2, z3, z4, z5, z6]
    refine wpAnyH_ready (rs := [4, 5]) (by kernel_rfl) (by simp) ?_
    refine AllReadyH.cons rfl (fun K hK => ?_) (AllReadyH.cons rfl (fun K hK => ?_) (AllReadyH.nil))
    ·go_simp
     refine (HEMP.out _ P1.out).mono ?_
     rintro e r2 ⟨rfl, hg⟩
     have P2 := Lib.hid (P1.out.trans (Kn.of_below hg (Nat.le_trans HBK.out P1.out.size)))
     have N2 := Lib.hid (N1.out.bel hg)
     clear hg
     refine hK.out _ _ (HS.out _ P2.out) (fun _ => ?_)
     clear hK
     try simp only [Act.put, z1, z2, z3, z4, z5, z6]
     refine wpAnyH_ready (rs := [5]) (by kernel_rfl) (by simp) ?_
     refine AllReadyH.cons rfl (fun K hK => ?_) (AllReadyH.nil)
     go_simp
     refine hK.out _ _ (HS.out _ (P2.out.trans (Kn.of_below ((Below.refl _ r2).alloc (Nat.le_refl _) _) (Nat.le_trans HBK.out P2.out.size)))) (fun _ => ?_)
     clear hK
     try simp only [Act.put, z1, z2, z3, z4, z5, z6]
     obtain ⟨r3, hr3⟩ : ∃ x, r2.alloc (.cells #[.int .u32 0, .int .u32 0] 74) = x := ⟨_, rfl⟩
     have P3 := Lib.hid (show Kn B wk r3 by rw [← hr3]; exact P2.out.trans (Kn.of_below ((Below.refl _ r2).alloc (Nat.le_refl _) _) (Nat.le_trans HBK.out P2.out.size)))
     have HP9' : wk.heap.size ≤ r2.heap.size := P2.out.size
     have N3 := Lib.hid (show NfB r3 B N sv lv6 (addX xk s1).1 la em by rw [← hr3]; exact N2.out.bel ((Below.refl _ r2).alloc (Nat.le_refl _) _))
     have hfb : r3.heap[r2.heap.size]? = some (.cells #[.int .u32 0, .int .u32 0] 74 (0, 0)) := by rw [← hr3]; exact at_push _ _
     rw [hr3]
     clear hr3
     obtain ⟨p9, hp9⟩ : ∃ x, r2.heap.size = x := ⟨_, rfl⟩
     rw [hp9] at HP9' hfb ⊢
     clear hp9
     have HP9 := Lib.hid HP9'
     have FB3 := Lib.hid hfb
     clear HP9' hfb
     refine wpAnyH_ready (rs := [6]) (by kernel_rfl) (by simp) ?_
     refine AllReadyH.cons rfl (fun K hK => ?_) (AllReadyH.nil)
     have q0 := cell_of_row _ _ 0 _ 74 (0, 0) FB3.out
     have q1 := cell_of_row _ _ 1 _ 74 (0, 0) FB3.out
     have d0 := frz8 FB3.out 0
     have d1 := frz8 FB3.out 1
     simp only [List.getElem?_toArray, List.getElem?_cons_zero, List.getElem?_cons_succ] at q0 q1
     have FZ := Lib.hid (brd_set N3.out P3.out FB3.out HP9.out HBK.out (f := f) (g := g))
     go_simp
     refine hK.out _ _ (HS.out _ FZ.out.2.2.1) (fun _ => ?_)
     clear hK q0 q1 d0 d1
     try simp only [Act.put, z1, z2, z3, z4, z5, z6]
     refine wpAnyH_ready (rs := [7]) (by kernel_rfl) (by simp) ?_
     refine AllReadyH.cons rfl (fun K hK => ?_) (AllReadyH.nil)
     go_simp
     refine hK.out _ _ (HS.out _ FZ.out.2.2.1) (fun _ => ?_)
     clear hK
     try simp only [Act.put, z1, z2, z3, z4, z5, z6]
     refine ⟨by kernel_rfl, ?_⟩
     refine NoPanic.normal ?_
     obtain ⟨f1, f2, f3, f4⟩ := FZ.out
     obtain ⟨wz, hwz⟩ : ∃ x, (r3.setCell ⟨p9, 0, none⟩ (.int .u32 (f : Int))).setCell ⟨p9, 1, none⟩ (.int .u32 (g : Int)) = x := ⟨_, rfl⟩
     rw [hwz] at f1 f2 f3 ⊢
     have hwz1 := HWK.out.kept f1 f3
     have htz := HTB.out.low ((HKWK.out.trans f3).low 0 HPOS.out)
     have c0 := cell_of_row _ _ 0 _ 74 (0, 0) hwz1.b5
     have c1 := cell_of_row _ _ 1 _ 74 (0, 0) hwz1.b5
     have c2 := cell_of_row _ _ 0 _ 74 (0, 0) f2
     simp only [List.getElem?_toArray, List.getElem?_cons_zero, List.getElem?_cons_succ] at c0 c1 c2
     have HLK := Lib.hid (link_any f1 htz (Nat.le_trans HBK.out f3.size) HL25.out HG32.out HFO1.out)
     have R := Lib.hid (And.intro f2 hwz1)
     clear f1 f2 f3 f4 hwz hwz1 htz
     go_upto_region 8 with (go_at_call 44; refine HLK.out.mono ?_; rintro e w2 ⟨rfl, hnb, hkn⟩; have HW2 := Lib.hid (And.intro hnb hkn); clear hnb hkn)
     obtain ⟨hnb, hkn⟩ := HW2.out
     have hz2 := R.out.2.kept hnb hkn
     have hp2 := hkn.cells _ _ _ _ R.out.1 (by decide) (by decide) (by decide)
     clear c0 c1 c2
     have c0 := cell_of_row _ _ 0 _ 74 (0, 0) hz2.b5
     have c1 := cell_of_row _ _ 1 _ 74 (0, 0) hz2.b5
     have c2 := cell_of_row _ _ 0 _ 74 (0, 0) hp2
     have c3 := cell_of_row _ _ 1 _ 74 (0, 0) hp2
     have d0 := frz8 hz2.b5 0
     have d1 := frz8 hz2.b5 1
     simp only [List.getElem?_toArray, List.getElem?_cons_zero, List.getElem?_cons_succ] at c0 c1 c2 c3
     have hne9 : p9 ≠ w.heap.size + 1 := by have h1 := HP9.out; have h2 := (Array.getElem?_eq_some_iff.1 HWK.out.b5).1; omega
     have Z := Lib.hid hz2
     have h5 : w.heap.size ≤ w.heap.size + 1 := Nat.le_succ _
     have h45 : w.heap.size ≠ w.heap.size + 1 := by omega
     clear hnb hkn hp2 hz2
     have hor1 := HOR1.out
     have hor2 := HOR2.out
     have hor3 := HOR3.out
     cases ab with
     | true =>
      cases eb with
      | true =>
       go_wp2_with fail
       go_roundw
       case measure => simp [intOf]; omega
       case rel => exact ⟨k + 1, _, _, _, _, true, by omega, by go_num, rfl, (Z.out.set0 h5 HB.out h45 _).set1 h5 HB.out h45 _, HMATH.out, HBND.out.1, HBND.out.2.1, HBND.out.2.2.1, HBND.out.2.2.2.2.1⟩
      | false =>
       go_wp2_with fail
       go_roundw
       case measure => simp [intOf]; omega
       case rel => exact ⟨k + 1, _, _, _, _, false, by omega, by go_num, rfl, ((Z.out.set0 h5 HB.out h45 _).set1 h5 HB.out h45 0).set1 h5 HB.out h45 _, (by have h := HMATH.out; rw [show (if (false : Bool) = true then L else 0) ||| g = g from Nat.zero_or g] at h; exact h), HBND.out.1, HBND.out.2.1, HBND.out.2.2.1, (by have h := HBND.out.2.2.2.2.2; rw [Nat.zero_or] at h; exact h)⟩
     | false =>
      cases eb with
      | true =>
       go_wp2_with fail
       go_roundw
       case measure => simp [intOf]; omega
       case rel => exact ⟨k + 1, _, _, _, _, false, by omega, by go_num, rfl, Z.out.set1 h5 HB.out h45 _, HMATH.out, HBND.out.1, HBND.out.2.1, HBND.out.2.2.2.1, HBND.out.2.2.2.2.1⟩
      | false =>
       go_wp2_with fail
       go_roundw
       case measure => simp [intOf]; omega
       case rel => exact ⟨k + 1, _, _, _, _, false, by omega, by go_num, rfl, (Z.out.set1 h5 HB.out h45 0).set1 h5 HB.out h45 _, (by have h := HMATH.out; rw [show (if (false : Bool) = true then L else 0) ||| g = g from Nat.zero_or g] at h; exact h), HBND.out.1, HBND.out.2.1, HBND.out.2.2.2.1, (by have h := HBND.out.2.2.2.2.2; rw [Nat.zero_or] at h; exact h)⟩
    ·go_simp
     refine hK.out _ _ (HS.out _ (P1.out.trans (Kn.of_below ((Below.refl _ r1).alloc (Nat.le_refl _) _) (Nat.le_trans HBK.out P1.out.size)))) (fun _ => ?_)
     clear hK
     try simp only [Act.put, z1, z2, z3, z4, z5, z6]
     obtain ⟨r2, hr2⟩ : ∃ x, r1.alloc (.cells #[.int .u32 0, .int .u32 0] 74) = x := ⟨_, rfl⟩
     have P2 := Lib.hid (show Kn B wk r2 by rw [← hr2]; exact P1.out.trans (Kn.of_below ((Below.refl _ r1).alloc (Nat.le_refl _) _) (Nat.le_trans HBK.out P1.out.size)))
     have HP9' : wk.heap.size ≤ r1.heap.size := P1.out.size
     have N2 := Lib.hid (show NfB r2 B N sv lv6 (addX xk s1).1 la em by rw [← hr2]; exact N1.out.bel ((Below.refl _ r1).alloc (Nat.le_refl _) _))
     have hfb : r2.heap[r1.heap.size]? = some (.cells #[.int .u32 0, .int .u32 0] 74 (0, 0)) := by rw [← hr2]; exact at_push _ _
     rw [hr2]
     clear hr2
     obtain ⟨p9, hp9⟩ : ∃ x, r1.heap.size = x := ⟨_, rfl⟩
     rw [hp9] at HP9' hfb ⊢
     clear hp9
     have HP9 := Lib.hid HP9'
     have FB2 := Lib.hid hfb
     clear HP9' hfb
     refine wpAnyH_ready (rs := [4]) (by kernel_rfl) (by simp) ?_
     refine AllReadyH.cons rfl (fun K hK => ?_) (AllReadyH.nil)
     go_simp
     refine (HEMP.out _ P2.out).mono ?_
     rintro e r3 ⟨rfl, hg⟩
     have P3 := Lib.hid (P2.out.trans (Kn.of_below hg (Nat.le_trans HBK.out P2.out.size)))
     have N3 := Lib.hid (N2.out.bel hg)
     have FB3 := Lib.hid ((hg.block _ (Array.getElem?_eq_some_iff.1 FB2.out).1).trans FB2.out)
     clear hg
     refine hK.out _ _ (HS.out _ P3.out) (fun _ => ?_)
     clear hK
     try simp only [Act.put, z1, z2, z3, z4, z5, z6]
     refine wpAnyH_ready (rs := [6]) (by kernel_rfl) (by simp) ?_
     refine AllReadyH.cons rfl (fun K hK => ?_) (AllReadyH.nil)
     have q0 := cell_of_row _ _ 0 _ 74 (0, 0) FB3.out
     have q1 := cell_of_row _ _ 1 _ 74 (0, 0) FB3.out
     have d0 := frz8 FB3.out 0
     have d1 := frz8 FB3.out 1
     simp only [List.getElem?_toArray, List.getElem?_cons_zero, List.getElem?_cons_succ] at q0 q1
     have FZ := Lib.hid (brd_set N3.out P3.out FB3.out HP9.out HBK.out (f := f) (g := g))
     go_simp
     refine hK.out _ _ (HS.out _ FZ.out.2.2.1) (fun _ => ?_)
     clear hK q0 q1 d0 d1
     try simp only [Act.put, z1, z2, z3, z4, z5, z6]
     refine wpAnyH_ready (rs := [7]) (by kernel_rfl) (by simp) ?_
     refine AllReadyH.cons rfl (fun K hK => ?_) (AllReadyH.nil)
     go_simp
     refine hK.out _ _ (HS.out _ FZ.out.2.2.1) (fun _ => ?_)
     clear hK
     try simp only [Act.put, z1, z2, z3, z4, z5, z6]
     refine ⟨by kernel_rfl, ?_⟩
     refine NoPanic.normal ?_
     obtain ⟨f1, f2, f3, f4⟩ := FZ.out
     obtain ⟨wz, hwz⟩ : ∃ x, (r3.setCell ⟨p9, 0, none⟩ (.int .u32 (f : Int))).setCell ⟨p9, 1, none⟩ (.int .u32 (g : Int)) = x := ⟨_, rfl⟩
     rw [hwz] at f1 f2 f3 ⊢
     have hwz1 := HWK.out.kept f1 f3
     have htz := HTB.out.low ((HKWK.out.trans f3).low 0 HPOS.out)
     have c0 := cell_of_row _ _ 0 _ 74 (0, 0) hwz1.b5
     have c1 := cell_of_row _ _ 1 _ 74 (0, 0) hwz1.b5
     have c2 := cell_of_row _ _ 0 _ 74 (0, 0) f2
     simp only [List.getElem?_toArray, List.getElem?_cons_zero, List.getElem?_cons_succ] at c0 c1 c2
     have HLK := Lib.hid (link_any f1 htz (Nat.le_trans HBK.out f3.size) HL25.out HG32.out HFO1.out)
     have R := Lib.hid (And.intro f2 hwz1)
     clear f1 f2 f3 f4 hwz hwz1 htz
     go_upto_region 8 with (go_at_call 44; refine HLK.out.mono ?_; rintro e w2 ⟨rfl, hnb, hkn⟩; have HW2 := Lib.hid (And.intro hnb hkn); clear hnb hkn)
     obtain ⟨hnb, hkn⟩ := HW2.out
     have hz2 := R.out.2.kept hnb hkn
     have hp2 := hkn.cells _ _ _ _ R.out.1 (by decide) (by decide) (by decide)
     clear c0 c1 c2
     have c0 := cell_of_row _ _ 0 _ 74 (0, 0) hz2.b5
     have c1 := cell_of_row _ _ 1 _ 74 (0, 0) hz2.b5
     have c2 := cell_of_row _ _ 0 _ 74 (0, 0) hp2
     have c3 := cell_of_row _ _ 1 _ 74 (0, 0) hp2
     have d0 := frz8 hz2.b5 0
     have d1 := frz8 hz2.b5 1
     simp only [List.getElem?_toArray, List.getElem?_cons_zero, List.getElem?_cons_succ] at c0 c1 c2 c3
     have hne9 : p9 ≠ w.heap.size + 1 := by have h1 := HP9.out; have h2 := (Array.getElem?_eq_some_iff.1 HWK.out.b5).1; omega
     have Z := Lib.hid hz2
     have h5 : w.heap.size ≤ w.heap.size + 1 := Nat.le_succ _
     have h45 : w.heap.size ≠ w.heap.size + 1 := by omega
     clear hnb hkn hp2 hz2
     have hor1 := HOR1.out
     have hor2 := HOR2.out
     have hor3 := HOR3.out
     cases ab with
     | true =>
      cases eb with
      | true =>
       go_wp2_with fail
       go_roundw
       case measure => simp [intOf]; omega
       case rel => exact ⟨k + 1, _, _, _, _, true, by omega, by go_num, rfl, (Z.out.set0 h5 HB.out h45 _).set1 h5 HB.out h45 _, HMATH.out, HBND.out.1, HBND.out.2.1, HBND.out.2.2.1, HBND.out.2.2.2.2.1⟩
      | false =>
       go_wp2_with fail
       go_roundw
       case measure => simp [intOf]; omega
       case rel => exact ⟨k + 1, _, _, _, _, false, by omega, by go_num, rfl, ((Z.out.set0 h5 HB.out h45 _).set1 h5 HB.out h45 0).set1 h5 HB.out h45 _, (by have h := HMATH.out; rw [show (if (false : Bool) = true then L else 0) ||| g = g from Nat.zero_or g] at h; exact h), HBND.out.1, HBND.out.2.1, HBND.out.2.2.1, (by have h := HBND.out.2.2.2.2.2; rw [Nat.zero_or] at h; exact h)⟩
     | false =>
      cases eb with
      | true =>
       go_wp2_with fail
       go_roundw
       case measure => simp [intOf]; omega
       case rel => exact ⟨k + 1, _, _, _, _, false, by omega, by go_num, rfl, Z.out.set1 h5 HB.out h45 _, HMATH.out, HBND.out.1, HBND.out.2.1, HBND.out.2.2.2.1, HBND.out.2.2.2.2.1⟩
      | false =>
       go_wp2_with fail
       go_roundw
       case measure => simp [intOf]; omega
       case rel => exact ⟨k + 1, _, _, _, _, false, by omega, by go_num, rfl, (Z.out.set1 h5 HB.out h45 0).set1 h5 HB.out h45 _, (by have h := HMATH.out; rw [show (if (false : Bool) = true then L else 0) ||| g = g from Nat.zero_or g] at h; exact h), HBND.out.1, HBND.out.2.1, HBND.out.2.2.2.1, (by have h := HBND.out.2.2.2.2.2; rw [Nat.zero_or] at h; exact h)⟩
   ·go_simp
    refine hK.out _ _ (HS.out _ (P0.out.trans (Kn.of_below ((Below.refl _ r0).alloc (Nat.le_refl _) _) (Nat.le_trans HBK.out P0.out.size)))) (fun _ => ?_)
    clear hK
    try simp only [Act.put, z1, z2, z3, z4, z5, z6]
    obtain ⟨r1, hr1⟩ : ∃ x, r0.alloc (.cells #[.int .u32 0, .int .u32 0] 74) = x := ⟨_, rfl⟩
    have P1 := Lib.hid (show Kn B wk r1 by rw [← hr1]; exact P0.out.trans (Kn.of_below ((Below.refl _ r0).alloc (Nat.le_refl _) _) (Nat.le_trans HBK.out P0.out.size)))
    have HP9' : wk.heap.size ≤ r0.heap.size := P0.out.size
    have N1 := Lib.hid (show NfB r1 B N sv lv s1 la em by rw [← hr1]; exact N0.out.bel ((Below.refl _ r0).alloc (Nat.le_refl _) _))
    have hfb : r1.heap[r0.heap.size]? = some (.cells #[.int .u32 0, .int .u32 0] 74 (0, 0)) := by rw [← hr1]; exact at_push _ _
    rw [hr1]
    clear hr1
    obtain ⟨p9, hp9⟩ : ∃ x, r0.heap.size = x := ⟨_, rfl⟩
    rw [hp9] at HP9' hfb ⊢
    clear hp9
    have HP9 := Lib.hid HP9'
    have FB1 := Lib.hid hfb
    clear HP9' hfb
    refine wpAnyH_ready (rs := [2]) (by kernel_rfl) (by simp) ?_
    refine AllReadyH.cons rfl (fun K hK => ?_) (AllReadyH.nil)
    go_simp
    refine (HADD.out _ P1.out N1.out).mono ?_
    rintro e r2 ⟨lv6, rfl, hnb, hkn⟩
    have P2 := Lib.hid (P1.out.trans hkn)
    have N2 := Lib.hid hnb
    have FB2 := Lib.hid (hkn.cells _ _ _ _ FB1.out (by decide) (by decide) (by decide))
    clear hnb hkn
    refine hK.out _ _ (HS.out _ P2.out) (fun _ => ?_)
    clear hK
    try simp only [Act.put, z1, z2, z3, z4, z5, z6]
    refine wpAnyH_ready (rs := [4]) (by kernel_rfl) (by simp) ?_
    refine AllReadyH.cons rfl (fun K hK => ?_) (AllReadyH.nil)
    go_simp
    refine (HEMP.out _ P2.out).mono ?_
    rintro e r3 ⟨rfl, hg⟩
    have P3 := Lib.hid (P2.out.trans (Kn.of_below hg (Nat.le_trans HBK.out P2.out.size)))
    have N3 := Lib.hid (N2.out.bel hg)
    have FB3 := Lib.hid ((hg.block _ (Array.getElem?_eq_some_iff.1 FB2.out).1).trans FB2.out)
    clear hg
    refine hK.out _ _ (HS.out _ P3.out) (fun _ => ?_)
    clear hK
    try simp only [Act.put, z1, z2, z3, z4, z5, z6]
    refine wpAnyH_ready (rs := [6]) (by kernel_rfl) (by simp) ?_
    refine AllReadyH.cons rfl (fun K hK => ?_) (AllReadyH.nil)
    have q0 := cell_of_row _ _ 0 _ 74 (0, 0) FB3.out
    have q1 := cell_of_row _ _ 1 _ 74 (0, 0) FB3.out
    have d0 := frz8 FB3.out 0
    have d1 := frz8 FB3.out 1
    simp only [List.getElem?_toArray, List.getElem?_cons_zero, List.getElem?_cons_succ] at q0 q1
    have FZ := Lib.hid (brd_set N3.out P3.out FB3.out HP9.out HBK.out (f := f) (g := g))
    go_simp
    refine hK.out _ _ (HS.out _ FZ.out.2.2.1) (fun _ => ?_)
    clear hK q0 q1 d0 d1
    try simp only [Act.put, z1, z2, z3, z4, z5, z6]
    refine wpAnyH_ready (rs := [7]) (by kernel_rfl) (by simp) ?_
    refine AllReadyH.cons rfl (fun K hK => ?_) (AllReadyH.nil)
    go_simp
    refine hK.out _ _ (HS.out _ FZ.out.2.2.1) (fun _ => ?_)
    clear hK
    try simp only [Act.put, z1, z2, z3, z4, z5, z6]
    refine ⟨by kernel_rfl, ?_⟩
    refine NoPanic.normal ?_
    obtain ⟨f1, f2, f3, f4⟩ := FZ.out
    obtain ⟨wz, hwz⟩ : ∃ x, (r3.setCell ⟨p9, 0, none⟩ (.int .u32 (f : Int))).setCell ⟨p9, 1, none⟩ (.int .u32 (g : Int)) = x := ⟨_, rfl⟩
    rw [hwz] at f1 f2 f3 ⊢
    have hwz1 := HWK.out.kept f1 f3
    have htz := HTB.out.low ((HKWK.out.trans f3).low 0 HPOS.out)
    have c0 := cell_of_row _ _ 0 _ 74 (0, 0) hwz1.b5
    have c1 := cell_of_row _ _ 1 _ 74 (0, 0) hwz1.b5
    have c2 := cell_of_row _ _ 0 _ 74 (0, 0) f2
    simp only [List.getElem?_toArray, List.getElem?_cons_zero, List.getElem?_cons_succ] at c0 c1 c2
    have HLK := Lib.hid (link_any f1 htz (Nat.le_trans HBK.out f3.size) HL25.out HG32.out HFO1.out)
    have R := Lib.hid (And.intro f2 hwz1)
    clear f1 f2 f3 f4 hwz hwz1 htz
    go_upto_region 8 with (go_at_call 44; refine HLK.out.mono ?_; rintro e w2 ⟨rfl, hnb, hkn⟩; have HW2 := Lib.hid (And.intro hnb hkn); clear hnb hkn)
    obtain ⟨hnb, hkn⟩ := HW2.out
    have hz2 := R.out.2.kept hnb hkn
    have hp2 := hkn.cells _ _ _ _ R.out.1 (by decide) (by decide) (by decide)
    clear c0 c1 c2
    have c0 := cell_of_row _ _ 0 _ 74 (0, 0) hz2.b5
    have c1 := cell_of_row _ _ 1 _ 74 (0, 0) hz2.b5
    have c2 := cell_of_row _ _ 0 _ 74 (0, 0) hp2
    have c3 := cell_of_row _ _ 1 _ 74 (0, 0) hp2
    have d0 := frz8 hz2.b5 0
    have d1 := frz8 hz2.b5 1
    simp only [List.getElem?_toArray, List.getElem?_cons_zero, List.getElem?_cons_succ] at c0 c1 c2 c3
    have hne9 : p9 ≠ w.heap.size + 1 := by have h1 := HP9.out; have h2 := (Array.getElem?_eq_some_iff.1 HWK.out.b5).1; omega
    have Z := Lib.hid hz2
    have h5 : w.heap.size ≤ w.heap.size + 1 := Nat.le_succ _
    have h45 : w.heap.size ≠ w.heap.size + 1 := by omega
    clear hnb hkn hp2 hz2
    have hor1 := HOR1.out
    have hor2 := HOR2.out
    have hor3 := HOR3.out
    cases ab with
    | true =>
     cases eb with
     | true =>
      go_wp2_with fail
      go_roundw
      case measure => simp [intOf]; omega
      case rel => exact ⟨k + 1, _, _, _, _, true, by omega, by go_num, rfl, (Z.out.set0 h5 HB.out h45 _).set1 h5 HB.out h45 _, HMATH.out, HBND.out.1, HBND.out.2.1, HBND.out.2.2.1, HBND.out.2.2.2.2.1⟩
     | false =>
      go_wp2_with fail
      go_roundw
      case measure => simp [intOf]; omega
      case rel => exact ⟨k + 1, _, _, _, _, false, by omega, by go_num, rfl, ((Z.out.set0 h5 HB.out h45 _).set1 h5 HB.out h45 0).set1 h5 HB.out h45 _, (by have h := HMATH.out; rw [show (if (false : Bool) = true then L else 0) ||| g = g from Nat.zero_or g] at h; exact h), HBND.out.1, HBND.out.2.1, HBND.out.2.2.1, (by have h := HBND.out.2.2.2.2.2; rw [Nat.zero_or] at h; exact h)⟩
    | false =>
     cases eb with
     | true =>
      go_wp2_with fail
      go_roundw
      case measure => simp [intOf]; omega
      case rel => exact ⟨k + 1, _, _, _, _, false, by omega, by go_num, rfl, Z.out.set1 h5 HB.out h45 _, HMATH.out, HBND.out.1, HBND.out.2.1, HBND.out.2.2.2.1, HBND.out.2.2.2.2.1⟩
     | false =>
      go_wp2_with fail
      go_roundw
      case measure => simp [intOf]; omega
      case rel => exact ⟨k + 1, _, _, _, _, false, by omega, by go_num, rfl, (Z.out.set1 h5 HB.out h45 0).set1 h5 HB.out h45 _, (by have h := HMATH.out; rw [show (if (false : Bool) = true then L else 0) ||| g = g from Nat.zero_or g] at h; exact h), HBND.out.1, HBND.out.2.1, HBND.out.2.2.2.1, (by have h := HBND.out.2.2.2.2.2; rw [Nat.zero_or] at h; exact h)⟩
  ·have hkn : k = n := by omega
   have : ks.drop k = [] := List.drop_eq_nil_of_le (by have := HN.out; omega)
   rw [this, addR_nil] at hmath
   clear this
   subst hkn
   have c0 := cell_of_row _ _ 0 _ 74 (0, 0) hwh.b5
   have c1 := cell_of_row _ _ 1 _ 74 (0, 0) hwh.b5
   have c2 := cell_of_row _ _ 0 _ 74 (0, 0) hwh.b4
   have c3 := cell_of_row _ _ 1 _ 74 (0, 0) hwh.b4
   have d0 := frz8 hwh.b4 0
   have d1 := frz8 hwh.b4 1
   simp only [List.getElem?_toArray, List.getElem?_cons_zero, List.getElem?_cons_succ] at c0 c1 c2 c3
   have HMATH := Lib.hid hmath
   have HWH := Lib.hid hwh
   clear hmath hwh hnb hkw hbd hpn hF hL
   go_wp2_with fail
   have h0 := heap_set (k := 0) HWH.out.b4 (.int .u32 (F : Int))
   have h1 := heap_set (k := 1) h0 (.int .u32 (L : Int))
   have e0 := cell_of_row _ _ 0 _ 74 (0, 0) h1
   have e1 := cell_of_row _ _ 1 _ 74 (0, 0) h1
   simp only [List.getElem?_toArray, List.set_cons_zero, List.set_cons_succ, List.getElem?_cons_zero, List.getElem?_cons_succ] at e0 e1
   try simp only [Exit.inBlock, Exit.then]
   refine bodyPost_ret (v := .agg #[.int .u32 (F : Int), .int .u32 (L : Int)]) (by simp [results, Tryd.results67, go_sem, e0, e1]) rfl ?_
   have h2 := (HWH.out.nb.other (k := 0) HWH.out.b4 (by decide) (by decide) (.int .u32 (F : Int))).other (k := 1) h0 (by decide) (by decide) (.int .u32 (L : Int))
   rw [← HMATH.out]
   exact ⟨_, rfl, h2, (HWH.out.kn.set_new (Nat.le_refl _) HB.out _).set_new (Nat.le_refl _) HB.out _⟩
end Go.Proofs.YtnccgaanfjaimaaDoor

namespace Go.Proofs.YtnccgaanfjaimaaDoor
open Go.ChangeShapes Go.WideShapes Go.ChangeAt Go.RowKit
set_option linter.unusedVariables false
set_option linter.unusedSimpArgs false

/-- labels of what is good are short -/
theorem fit_lab {p : X} (h : p.fits = true) : p.lab.size ≤ 20 := by
 unfold X.fits fitB at h
 by_cases h1 : p.kind = 1
 ·rw [if_pos h1, Bool.and_eq_true] at h
  have h2 := h.1
  unfold freB verB at h2
  rw [Bool.and_eq_true, Bool.and_eq_true, decide_eq_true_eq] at h2
  exact h2.1.1.2
 ·rw [if_neg h1] at h
  by_cases h2 : p.kind = 2 ∨ p.kind = 3
  ·rw [if_pos h2, Bool.and_eq_true, decide_eq_true_eq] at h
   rw [h.1]; decide
  ·rw [if_neg h2] at h
   by_cases h3 : p.kind = 4 ∨ p.kind = 5 ∨ p.kind = 6
   ·rw [if_pos h3, Bool.and_eq_true, decide_eq_true_eq] at h
    rw [h.1]; decide
   ·rw [if_neg h3] at h; cases h
theorem good_lit {x : X} (h : x.good) : x.lit := fun p hp => Nat.le_trans (fit_lab (h p hp)) (by unfold maxLen; omega)
theorem good_lab {x : X} (h : x.good) : x.lab.size ≤ 20 := fit_lab (h x (by rw [X.parts_eq]; simp))
theorem kid_right {x y : X} (h : x.good) (hs : x.sz ≤ 24) (hy : y ∈ x.kids) : y.right = true := by
 refine is_right ?_ (h.kids y hy)
 have := szL_mem hy
 have := x.sz_eq
 omega

set_option maxRecDepth 100000 in
set_option maxHeartbeats 8000000 in
theorem add_label {x : X} (hg : x.good) (hk : x.kind = 1) : AddC x := by
 intro M B N sv lv s la em w v hx hM hB hN hT hbd hpn
 obtain ⟨kv, rfl, hr⟩ := hx
 obtain ⟨A, c, rfl⟩ := hr.form
 have hb1 : Below w.heap.size w ((w.alloc (.cells #[.int .i64 x.kind, .string x.lab, .slice A x.kids.length c] 25)).alloc (.cells #[.int .u32 0, .int .u32 0] 74)) := ((Below.refl _ w).alloc (Nat.le_refl _) _).alloc (by simp) _
 have hx0 : ((w.alloc (.cells #[.int .i64 x.kind, .string x.lab, .slice A x.kids.length c] 25)).alloc (.cells #[.int .u32 0, .int .u32 0] 74)).heap[w.heap.size]? = some (.cells #[.int .i64 x.kind, .string x.lab, .slice A x.kids.length c] 25 (0, 0)) := (Below.heap_alloc _ _ _ (by simp)).trans (at_push w _)
 have hx1 : ((w.alloc (.cells #[.int .i64 x.kind, .string x.lab, .slice A x.kids.length c] 25)).alloc (.cells #[.int .u32 0, .int .u32 0] 74)).heap[w.heap.size + 1]? = some (.cells #[.int .u32 0, .int .u32 0] 74 (0, 0)) := by
  have h := at_push (w.alloc (.cells #[.int .i64 x.kind, .string x.lab, .slice A x.kids.length c] 25)) (.cells #[.int .u32 0, .int .u32 0] 74)
  rwa [World.size_alloc] at h
 rw [hk] at hx0 hx1 hb1 ⊢
 have hlen : s.labs.length < 32 := by rw [X.pn_eq, if_pos hk] at hpn; omega
 have HADD := Lib.hid (fun W (hW : Kn B w W) (hn : NfB W B N sv lv s la em) => addLabel_any hn (Nat.le_trans hB hW.size) (Nat.le_trans (good_lab hg) (by omega)) hlen)
 have hres : addX x s = (⟨s.labs ++ [x.lab], s.fol⟩, 2 ^ s.labs.length, 2 ^ s.labs.length) := by rw [addX_eq, if_pos hk]
 have HN0 := Lib.hid (hN.bel hb1)
 have HK0 := Lib.hid (Kn.of_below hb1 hB)
 have HB := Lib.hid hB
 unfold AddR
 rw [hres]
 simp only
 obtain ⟨pw, hpw⟩ : ∃ y : Nat, 2 ^ s.labs.length = y := ⟨_, rfl⟩
 rw [hpw] at HADD ⊢
 clear hres hg hx0 hx1 hbd hpn hN hr hpw hT hb1 hB
 have hx0 : ((w.alloc (.cells #[.int .i64 1, .string x.lab, .slice A x.kids.length c] 25)).alloc (.cells #[.int .u32 0, .int .u32 0] 74)).heap[w.heap.size]? = some (.cells #[.int .i64 1, .string x.lab, .slice A x.kids.length c] 25 (0, 0)) := (Below.heap_alloc _ _ _ (by simp)).trans (at_push w _)
 have hx1 : ((w.alloc (.cells #[.int .i64 1, .string x.lab, .slice A x.kids.length c] 25)).alloc (.cells #[.int .u32 0, .int .u32 0] 74)).heap[w.heap.size + 1]? = some (.cells #[.int .u32 0, .int .u32 0] 74 (0, 0)) := by
  have h := at_push (w.alloc (.cells #[.int .i64 1, .string x.lab, .slice A x.kids.length c] 25)) (.cells #[.int .u32 0, .int .u32 0] 74)
  rwa [World.size_alloc] at h
 go_enter Tryd.func43, Tryd.ntmps43
 go_upto_region 1 with (fail)
 obtain ⟨W0, hW0⟩ : ∃ x, _ = x := ⟨(w.alloc (.cells #[.int .i64 1, .string x.lab, .slice A x.kids.length c] 25)).alloc (.cells #[.int .u32 0, .int .u32 0] 74), rfl⟩
 rw [hW0] at hx0 hx1 HN0 HK0 ⊢
 clear hW0
 have c0 := cell_of_row _ _ 0 _ 25 (0, 0) hx0
 have c1 := cell_of_row _ _ 1 _ 25 (0, 0) hx0
 simp only [List.getElem?_toArray, List.getElem?_cons_zero, List.getElem?_cons_succ] at c0 c1
 have HX1 := Lib.hid hx1
 clear hx0 hx1
 go_upto_region 3 with (fail)
 have HP := HADD.out W0 HK0.out HN0.out
 have HPP := Lib.hid HP
 clear HP
 have HBW := HB
 go_wp2_with (go_at_call 66; refine HPP.out.mono ?_; rintro e w1 ⟨lv', rfl, hnb, hkn⟩; have hr4 := hkn.cells _ _ _ _ HX1.out (by decide) (by decide) (by decide); have HW1 := Lib.hid (And.intro hnb (And.intro hkn hr4)); have e0 := cell_of_row _ _ 0 _ 74 (0, 0) hr4; have e1 := cell_of_row _ _ 1 _ 74 (0, 0) hr4; have d0 := frz8 hr4 0; have d1 := frz8 hr4 1; simp only [List.getElem?_toArray, List.getElem?_cons_zero, List.getElem?_cons_succ] at e0 e1; clear hnb hkn hr4)
 have h0 := heap_set (k := 0) HW1.out.2.2 (.int .u32 (pw : Int))
 have h1 := heap_set (k := 1) h0 (.int .u32 (pw : Int))
 have e0' := cell_of_row _ _ 0 _ 74 (0, 0) h1
 have e1' := cell_of_row _ _ 1 _ 74 (0, 0) h1
 simp only [List.getElem?_toArray, List.set_cons_zero, List.set_cons_succ, List.getElem?_cons_zero, List.getElem?_cons_succ] at e0' e1'
 try simp only [Exit.inBlock, Exit.then]
 refine bodyPost_ret (v := .agg #[.int .u32 (pw : Int), .int .u32 (pw : Int)]) (by simp [results, Tryd.results43, go_sem, e0', e1']) rfl ?_
 have h2 := (HW1.out.1.other (k := 0) HW1.out.2.2 (by decide) (by decide) (.int .u32 (pw : Int))).other (k := 1) h0 (by decide) (by decide) (.int .u32 (pw : Int))
 exact ⟨_, rfl, h2, ((HK0.out.trans HW1.out.2.1).set_new (Nat.le_succ _) (Nat.le_trans HB.out (Nat.le_succ _)) _).set_new (Nat.le_succ _) (Nat.le_trans HB.out (Nat.le_succ _)) _⟩

set_option maxRecDepth 100000 in
set_option maxHeartbeats 8000000 in
theorem add_seq {x : X} (hg : x.good) (hs : x.sz ≤ 24) (hk : x.kind = 2) (ih : ∀ y ∈ x.kids, AddC y) : AddC x := by
 intro M B N sv lv s la em w v hx hM hB hN hT hbd hpn
 obtain ⟨kv, rfl, hr⟩ := hx
 obtain ⟨A, c, rfl⟩ := hr.form
 have hb1 : Below w.heap.size w ((w.alloc (.cells #[.int .i64 x.kind, .string x.lab, .slice A x.kids.length c] 25)).alloc (.cells #[.int .u32 0, .int .u32 0] 74)) := ((Below.refl _ w).alloc (Nat.le_refl _) _).alloc (by simp) _
 have hx0 : ((w.alloc (.cells #[.int .i64 x.kind, .string x.lab, .slice A x.kids.length c] 25)).alloc (.cells #[.int .u32 0, .int .u32 0] 74)).heap[w.heap.size]? = some (.cells #[.int .i64 x.kind, .string x.lab, .slice A x.kids.length c] 25 (0, 0)) := (Below.heap_alloc _ _ _ (by simp)).trans (at_push w _)
 have hx1 : ((w.alloc (.cells #[.int .i64 x.kind, .string x.lab, .slice A x.kids.length c] 25)).alloc (.cells #[.int .u32 0, .int .u32 0] 74)).heap[w.heap.size + 1]? = some (.cells #[.int .u32 0, .int .u32 0] 74 (0, 0)) := by
  have h := at_push (w.alloc (.cells #[.int .i64 x.kind, .string x.lab, .slice A x.kids.length c] 25)) (.cells #[.int .u32 0, .int .u32 0] 74)
  rwa [World.size_alloc] at h
 rw [hk] at hx0 hx1 hb1 ⊢
 have hpl : x.pn = pnL x.kids := by rw [X.pn_eq, hk]; rfl
 have hkl : x.kids.length ≤ 1000 := by have := len_szL x.kids; have := x.sz_eq; omega
 have hpos := hN.pos
 have HADD := Lib.hid (fun W (hW : Kn B w W) (hn : NfB W B N sv lv s la em) => addRow_any (fun y hy => ⟨ih y hy, kid_right hg hs hy, lit_kid (good_lit hg) hy, by have := szL_mem hy; have := x.sz_eq; omega⟩) (hr.bel (hW.below.mono hM)) hM (Nat.le_trans hB hW.size) hn (hT.low (hW.low 0 hpos)) hbd (by omega) hkl)
 have hres : addX x s = addR x.kids s 0 0 true := by rw [addX_eq, hk]; rfl
 have HN0 := Lib.hid (hN.bel hb1)
 have HK0 := Lib.hid (Kn.of_below hb1 hB)
 have HB := Lib.hid hB
 unfold AddR
 rw [hres]
 obtain ⟨pf, hpf⟩ : ∃ y : Nat, (addR x.kids s 0 0 true).2.1 = y := ⟨_, rfl⟩
 obtain ⟨pl, hpw⟩ : ∃ y : Nat, (addR x.kids s 0 0 true).2.2 = y := ⟨_, rfl⟩
 rw [hpf, hpw] at HADD ⊢
 clear hpf hpl hkl hpos ih hs hres hg hx0 hx1 hbd hpn hN hr hpw hT hb1 hB
 have hx0 : ((w.alloc (.cells #[.int .i64 2, .string x.lab, .slice A x.kids.length c] 25)).alloc (.cells #[.int .u32 0, .int .u32 0] 74)).heap[w.heap.size]? = some (.cells #[.int .i64 2, .string x.lab, .slice A x.kids.length c] 25 (0, 0)) := (Below.heap_alloc _ _ _ (by simp)).trans (at_push w _)
 have hx1 : ((w.alloc (.cells #[.int .i64 2, .string x.lab, .slice A x.kids.length c] 25)).alloc (.cells #[.int .u32 0, .int .u32 0] 74)).heap[w.heap.size + 1]? = some (.cells #[.int .u32 0, .int .u32 0] 74 (0, 0)) := by
  have h := at_push (w.alloc (.cells #[.int .i64 2, .string x.lab, .slice A x.kids.length c] 25)) (.cells #[.int .u32 0, .int .u32 0] 74)
  rwa [World.size_alloc] at h
 go_enter Tryd.func43, Tryd.ntmps43
 go_upto_region 1 with (fail)
 obtain ⟨W0, hW0⟩ : ∃ x, _ = x := ⟨(w.alloc (.cells #[.int .i64 2, .string x.lab, .slice A x.kids.length c] 25)).alloc (.cells #[.int .u32 0, .int .u32 0] 74), rfl⟩
 rw [hW0] at hx0 hx1 HN0 HK0 ⊢
 clear hW0
 have c0 := cell_of_row _ _ 0 _ 25 (0, 0) hx0
 have c1 := cell_of_row _ _ 1 _ 25 (0, 0) hx0
 have c2 := cell_of_row _ _ 2 _ 25 (0, 0) hx0
 simp only [List.getElem?_toArray, List.getElem?_cons_zero, List.getElem?_cons_succ] at c0 c1 c2
 have HX1 := Lib.hid hx1
 clear hx0 hx1
 go_upto_region 5 with (fail)
 have HP := HADD.out W0 HK0.out HN0.out
 have HPP := Lib.hid HP
 clear HP
 have HBW := HB
 go_wp2_with (go_at_call 67; refine HPP.out.mono ?_; rintro e w1 ⟨lv', rfl, hnb, hkn⟩; have hr4 := hkn.cells _ _ _ _ HX1.out (by decide) (by decide) (by decide); have HW1 := Lib.hid (And.intro hnb (And.intro hkn hr4)); have e0 := cell_of_row _ _ 0 _ 74 (0, 0) hr4; have e1 := cell_of_row _ _ 1 _ 74 (0, 0) hr4; have d0 := frz8 hr4 0; have d1 := frz8 hr4 1; simp only [List.getElem?_toArray, List.getElem?_cons_zero, List.getElem?_cons_succ] at e0 e1; clear hnb hkn hr4)
 have h0 := heap_set (k := 0) HW1.out.2.2 (.int .u32 (pf : Int))
 have h1 := heap_set (k := 1) h0 (.int .u32 (pl : Int))
 have e0' := cell_of_row _ _ 0 _ 74 (0, 0) h1
 have e1' := cell_of_row _ _ 1 _ 74 (0, 0) h1
 simp only [List.getElem?_toArray, List.set_cons_zero, List.set_cons_succ, List.getElem?_cons_zero, List.getElem?_cons_succ] at e0' e1'
 try simp only [Exit.inBlock, Exit.then]
 refine bodyPost_ret (v := .agg #[.int .u32 (pf : Int), .int .u32 (pl : Int)]) (by simp [results, Tryd.results43, go_sem, e0', e1']) rfl ?_
 have h2 := (HW1.out.1.other (k := 0) HW1.out.2.2 (by decide) (by decide) (.int .u32 (pf : Int))).other (k := 1) h0 (by decide) (by decide) (.int .u32 (pl : Int))
 exact ⟨_, rfl, h2, ((HK0.out.trans HW1.out.2.1).set_new (Nat.le_succ _) (Nat.le_trans HB.out (Nat.le_succ _)) _).set_new (Nat.le_succ _) (Nat.le_trans HB.out (Nat.le_succ _)) _⟩
end Go.Proofs.YtnccgaanfjaimaaDoor

namespace Go.Proofs.YtnccgaanfjaimaaDoor
open Go.ChangeShapes Go.WideShapes Go.ChangeAt Go.RowKit
set_option linter.unusedVariables false
set_option linter.unusedSimpArgs false

theorem addX_rest {x : X} {s : NS} (h1 : x.kind ≠ 1) (h2 : x.kind ≠ 2) : addX x s = if x.kind = 4 ∨ x.kind = 5 then (⟨(addA x.kids s 0 0).1.labs, lnk (addA x.kids s 0 0).1.fol (addA x.kids s 0 0).2.2 (addA x.kids s 0 0).2.1⟩, (addA x.kids s 0 0).2) else addA x.kids s 0 0 := by
 rw [addX_eq, if_neg h1, if_neg h2]

set_option maxRecDepth 100000 in
set_option maxHeartbeats 8000000 in
theorem add_rest {x : X} (hs : x.sz ≤ 24) (hk1 : x.kind ≠ 1) (hk2 : x.kind ≠ 2) (ih : ∀ y ∈ x.kids, AddC y) : AddC x := by
 intro M B N sv lv s la em w v hx hM hB hN hT hbd hpn
 obtain ⟨kv, rfl, hr⟩ := hx
 obtain ⟨A, c, rfl⟩ := hr.form
 have hpl : x.pn = pnL x.kids := by rw [X.pn_eq, if_neg hk1]
 rw [hpl] at hpn
 have hkl : x.kids.length ≤ 1000 := by have := len_szL x.kids; have := x.sz_eq; omega
 have hb1 : Below w.heap.size w (((w.alloc (.cells #[.int .i64 x.kind, .string x.lab, .slice A x.kids.length c] 25)).alloc (.cells #[.int .u32 0, .int .u32 0] 74)).alloc (.cells #[.int .u32 0, .int .u32 0] 74)) := (((Below.refl _ w).alloc (Nat.le_refl _) _).alloc (by simp) _).alloc (by simp; omega) _
 have hx0 : (((w.alloc (.cells #[.int .i64 x.kind, .string x.lab, .slice A x.kids.length c] 25)).alloc (.cells #[.int .u32 0, .int .u32 0] 74)).alloc (.cells #[.int .u32 0, .int .u32 0] 74)).heap[w.heap.size]? = some (.cells #[.int .i64 x.kind, .string x.lab, .slice A x.kids.length c] 25 (0, 0)) := (Below.heap_alloc _ _ _ (by simp; omega)).trans ((Below.heap_alloc _ _ _ (by simp)).trans (at_push w _))
 have hx1 : (((w.alloc (.cells #[.int .i64 x.kind, .string x.lab, .slice A x.kids.length c] 25)).alloc (.cells #[.int .u32 0, .int .u32 0] 74)).alloc (.cells #[.int .u32 0, .int .u32 0] 74)).heap[w.heap.size + 1]? = some (.cells #[.int .u32 0, .int .u32 0] 74 (0, 0)) := by
  refine (Below.heap_alloc _ _ _ (by simp)).trans ?_
  have h := at_push (w.alloc (.cells #[.int .i64 x.kind, .string x.lab, .slice A x.kids.length c] 25)) (.cells #[.int .u32 0, .int .u32 0] 74)
  rwa [World.size_alloc] at h
 have hx2 : (((w.alloc (.cells #[.int .i64 x.kind, .string x.lab, .slice A x.kids.length c] 25)).alloc (.cells #[.int .u32 0, .int .u32 0] 74)).alloc (.cells #[.int .u32 0, .int .u32 0] 74)).heap[w.heap.size + 1 + 1]? = some (.cells #[.int .u32 0, .int .u32 0] 74 (0, 0)) := by
  have h := at_push ((w.alloc (.cells #[.int .i64 x.kind, .string x.lab, .slice A x.kids.length c] 25)).alloc (.cells #[.int .u32 0, .int .u32 0] 74)) (.cells #[.int .u32 0, .int .u32 0] 74)
  rwa [World.size_alloc, World.size_alloc] at h
 have y0 := cell_of_row _ _ 0 _ 25 (0, 0) ((Below.heap_alloc (w.alloc (.cells #[.int .i64 x.kind, .string x.lab, .slice A x.kids.length c] 25)) (.cells #[.int .u32 0, .int .u32 0] 74) w.heap.size (by simp)).trans (at_push w _))
 simp only [List.getElem?_toArray, List.getElem?_cons_zero, List.getElem?_cons_succ] at y0
 have HX0 := Lib.hid hx0
 have HWH0 := Lib.hid (show Wh w B N sv lv s la em (w.heap.size + 1) (w.heap.size + 1 + 1) 0 0 _ from ⟨hN.bel hb1, Kn.of_below hb1 hB, hx1, hx2⟩)
 have HB := Lib.hid hB
 have HT := Lib.hid hT
 have HBD := Lib.hid hbd
 have HPN := Lib.hid hpn
 have HPOS := Lib.hid hN.pos
 have HM := Lib.hid hM
 have HIH := Lib.hid ih
 have HX := Lib.hid hr
 have HRES := Lib.hid (addX_rest (s := s) hk1 hk2)
 obtain ⟨n, hn⟩ : ∃ n, x.kids.length = n := ⟨_, rfl⟩
 have HN := Lib.hid hn
 unfold AddR
 rw [hn] at hkl hx0 HX0 HWH0 y0 ⊢
 generalize x.kids = ks at *
 clear hx1 hx2 hb1 hB hN hT hbd hpn hM ih hr hn hpl hs
 go_enter Tryd.func43, Tryd.ntmps43
 go_upto_region 7 with (fail)
 have y1 := cell_of_row _ _ 2 _ 25 (0, 0) hx0
 simp only [List.getElem?_toArray, List.getElem?_cons_zero, List.getElem?_cons_succ] at y1
 clear hx0
 go_upto_region 8 with (fail)
 have ek1 : (x.kind == 1) = false := by simp [hk1]
 have ek2 : (x.kind == 2) = false := by simp [hk2]
 simp only [ek1, ek2]
 clear ek1 ek2 hk1 hk2
 obtain ⟨W0, hW0⟩ : ∃ y, ((w.alloc (.cells #[.int .i64 x.kind, .string x.lab, .slice A n c] 25)).alloc (.cells #[.int .u32 0, .int .u32 0] 74)).alloc (.cells #[.int .u32 0, .int .u32 0] 74) = y := ⟨_, rfl⟩
 rw [hW0] at HX0 HWH0
 clear y0 y1
 try rw [hW0]
 clear hW0
 go_loopw [26] (fun i wr => ∃ (k : Nat) (lv' : Value) (s1 : NS) (F L : Nat), k ≤ n ∧ i = .int .i64 k ∧ Wh w B N sv lv' s1 la em (w.heap.size + 1) (w.heap.size + 1 + 1) F L wr ∧ wr.heap[w.heap.size]? = some (.cells #[.int .i64 x.kind, .string x.lab, .slice A n c] 25 (0, 0)) ∧
  addA (ks.drop k) s1 F L = addA ks s 0 0 ∧ Bd s1 ∧ s1.labs.length + pnL (ks.drop k) ≤ 25 ∧ F < 2 ^ s1.labs.length ∧ L < 2 ^ s1.labs.length) (fun i _ => n - (intOf i).toNat)
 case atStart => exact ⟨0, _, s, 0, 0, Nat.zero_le _, rfl, HWH0.out, HX0.out, rfl, HBD.out, HPN.out, Nat.two_pow_pos _, Nat.two_pow_pos _⟩
 case round =>
  obtain ⟨k, lv, s1, F, L, hk, rfl, hwh, hxb, hmath, hbd, hpn, hF, hL⟩ := hrel
  have hnb := hwh.nb
  have hkw := hwh.kn
  by_cases hlt : k < n
  ·have e1 : k < ks.length := by have := HN.out; omega
   obtain ⟨ad, kv, f1, _, q0, q1, q2, q3⟩ := XR.at3 (HX.out.bel (hkw.below.mono HM.out)) e1
   subst f1
   obtain ⟨A4, c4, e4⟩ := q3.form
   obtain ⟨m4, hm4⟩ : ∃ x, ks[k].kids.length = x := ⟨_, rfl⟩
   rw [hm4] at e4
   clear hm4
   subst e4
   have hadd := HIH.out ks[k] (List.getElem_mem e1)
   have hxv : XV M wr (.agg #[.int .i64 ks[k].kind, .string ks[k].lab, .slice A4 m4 c4]) ks[k] := ⟨_, rfl, q3⟩
   have hmath' : addA (ks.drop (k + 1)) (addX ks[k] s1).1 (F ||| (addX ks[k] s1).2.1) (L ||| (addX ks[k] s1).2.2) = addA ks s 0 0 := by
    rw [← hmath, List.drop_eq_getElem_cons e1, addA_cons]
   rw [pnL_drop e1] at hpn
   obtain ⟨b1, b2, b3, b4⟩ := addX_bd ks[k] hbd
   have HBR := Lib.hid (Nat.le_trans HB.out hkw.size)
   have hb8 := at_push wr (.cells #[.int .i64 ks[k].kind, .string ks[k].lab, .slice A4 m4 c4] 25)
   have hbk := (Below.refl _ wr).alloc (Nat.le_refl _) (.cells #[.int .i64 ks[k].kind, .string ks[k].lab, .slice A4 m4 c4] 25)
   have hkk := Kn.of_below hbk HBR.out
   have HADD := Lib.hid (hadd M B N sv lv s1 la em _ (.agg #[.int .i64 ks[k].kind, .string ks[k].lab, .slice A4 m4 c4]) (hxv.bel (hbk.mono (Nat.le_trans HM.out HBR.out))) HM.out (Nat.le_trans HBR.out hbk.size) (hnb.bel hbk) (HT.out.low ((hkw.trans hkk).low 0 HPOS.out)) hbd (by omega))
   have HWK := Lib.hid (hwh.kept (hnb.bel hbk) hkk)
   have HXK := Lib.hid (hkk.cells _ _ _ _ hxb (by decide) (by decide) (by decide))
   have HMATH := Lib.hid hmath'
   have hlen25 : s1.labs.length ≤ 25 := by omega
   have hl25' : (addX ks[k] s1).1.labs.length ≤ 25 := by omega
   have hF25 : F < 2 ^ 25 := Nat.lt_of_lt_of_le hF (Nat.pow_le_pow_right (by decide) hlen25)
   have hL25 : L < 2 ^ 25 := Nat.lt_of_lt_of_le hL (Nat.pow_le_pow_right (by decide) hlen25)
   have hf25 : (addX ks[k] s1).2.1 < 2 ^ 25 := Nat.lt_of_lt_of_le b2 (Nat.pow_le_pow_right (by decide) hl25')
   have hg25 : (addX ks[k] s1).2.2 < 2 ^ 25 := Nat.lt_of_lt_of_le b3 (Nat.pow_le_pow_right (by decide) hl25')
   have HOR1 := Lib.hid (u32_or F (addX ks[k] s1).2.1 (by omega) (by omega))
   have HOR2 := Lib.hid (u32_or L (addX ks[k] s1).2.2 (by omega) (by omega))
   have hFl : F < 2 ^ (addX ks[k] s1).1.labs.length := Nat.lt_of_lt_of_le hF (Nat.pow_le_pow_right (by decide) (by omega))
   have hLl : L < 2 ^ (addX ks[k] s1).1.labs.length := Nat.lt_of_lt_of_le hL (Nat.pow_le_pow_right (by decide) (by omega))
   have HBND := Lib.hid (show Bd (addX ks[k] s1).1 ∧ (addX ks[k] s1).1.labs.length + pnL (ks.drop (k + 1)) ≤ 25 ∧ (F ||| (addX ks[k] s1).2.1) < 2 ^ (addX ks[k] s1).1.labs.length ∧ (L ||| (addX ks[k] s1).2.2) < 2 ^ (addX ks[k] s1).1.labs.length
    from ⟨b1, by omega, Nat.or_lt_two_pow hFl b2, Nat.or_lt_two_pow hLl b3⟩)
   clear hFl hLl hadd hxv hnb hkw hwh hmath hmath' hbd hpn hF hL b1 b2 b3 b4 q3 hf25 hg25 hF25 hL25 hlen25 hl25' hxb
   unfold AddR at HADD
   go_upto_region 10 with (fail)
   obtain ⟨wk, hwk⟩ : ∃ x, wr.alloc (.cells #[.int .i64 ks[k].kind, .string ks[k].lab, .slice A4 m4 c4] 25) = x := ⟨_, rfl⟩
   rw [hwk] at hb8 hbk hkk HADD HWK HXK ⊢
   clear hwk q0 q1 q2
   have g0 := cell_of_row _ _ 0 _ 25 (0, 0) hb8
   have g1 := cell_of_row _ _ 1 _ 25 (0, 0) hb8
   have g2 := cell_of_row _ _ 2 _ 25 (0, 0) hb8
   simp only [List.getElem?_toArray, List.getElem?_cons_zero, List.getElem?_cons_succ] at g0 g1 g2
   clear hbk hb8 hkk
   obtain ⟨E8, hE8⟩ : ∃ x, wr.heap.size = x := ⟨_, rfl⟩
   rw [hE8] at g0 g1 g2 ⊢
   clear hE8
   generalize hxk : ks[k] = xk at *
   obtain ⟨f, hf⟩ : ∃ x, (addX xk s1).2.1 = x := ⟨_, rfl⟩
   obtain ⟨g, hg⟩ : ∃ x, (addX xk s1).2.2 = x := ⟨_, rfl⟩
   rw [hf, hg] at HADD HMATH HBND
   rw [hf] at HOR1
   rw [hg] at HOR2
   clear hf hg hxk
   go_upto_region 11 with (go_at_call 43; refine HADD.out.mono ?_; rintro e w1 ⟨lv6, rfl, hnb, hkn⟩; have HW1 := Lib.hid (And.intro hnb hkn); clear hnb hkn)
   have hz0 := HWK.out.kept HW1.out.1 HW1.out.2
   have hxb0 := HW1.out.2.cells _ _ _ _ HXK.out (by decide) (by decide) (by decide)
   have hba := (Below.refl _ w1).alloc (Nat.le_refl _) (.cells #[.int .u32 (f : Int), .int .u32 (g : Int)] 74)
   have hz1 := hz0.kept (hz0.nb.bel hba) (Kn.of_below hba (Nat.le_trans HB.out hz0.kn.size))
   have hp2 := at_push w1 (.cells #[.int .u32 (f : Int), .int .u32 (g : Int)] 74)
   have hxb1 := (hba.block _ (Array.getElem?_eq_some_iff.1 hxb0).1).trans hxb0
   have hne9 : w1.heap.size ≠ w.heap.size + 1 + 1 := by have h2 := (Array.getElem?_eq_some_iff.1 hz0.b5).1; omega
   obtain ⟨wz, hwz⟩ : ∃ x, w1.alloc (.cells #[.int .u32 (f : Int), .int .u32 (g : Int)] 74) = x := ⟨_, rfl⟩
   rw [hwz] at hz1 hp2 hxb1 ⊢
   clear hwz hba hz0 hxb0 g0 g1 g2
   have c0 := cell_of_row _ _ 0 _ 74 (0, 0) hz1.b5
   have c1 := cell_of_row _ _ 1 _ 74 (0, 0) hz1.b5
   have c2 := cell_of_row _ _ 0 _ 74 (0, 0) hp2
   have c3 := cell_of_row _ _ 1 _ 74 (0, 0) hp2
   have d0 := frz8 hz1.b5 0
   have d1 := frz8 hz1.b5 1
   simp only [List.getElem?_toArray, List.getElem?_cons_zero, List.getElem?_cons_succ] at c0 c1 c2 c3
   have Z := Lib.hid (And.intro hz1 hxb1)
   clear hz1 hp2 hxb1
   have h5 : w.heap.size ≤ w.heap.size + 1 + 1 := by omega
   have h45 : w.heap.size + 1 ≠ w.heap.size + 1 + 1 := by omega
   have hor1 := HOR1.out
   have hor2 := HOR2.out
   obtain ⟨p8, hp8⟩ : ∃ x, w1.heap.size = x := ⟨_, rfl⟩
   rw [hp8] at c2 c3 hne9 ⊢
   clear hp8
   go_wp2_with fail
   go_roundw
   case measure => simp [intOf]; omega
   case rel => exact ⟨k + 1, _, _, _, _, by omega, by go_num, (Z.out.1.set0 h5 HB.out h45 _).set1 h5 HB.out h45 _, (Below.heap_setCell _ _ _ _ (by show w.heap.size ≠ w.heap.size + 1 + 1; omega)).trans ((Below.heap_setCell _ _ _ _ (by show w.heap.size ≠ w.heap.size + 1 + 1; omega)).trans Z.out.2), HMATH.out, HBND.out.1, HBND.out.2.1, HBND.out.2.2.1, HBND.out.2.2.2⟩
  ·have hkn : k = n := by omega
   have : ks.drop k = [] := List.drop_eq_nil_of_le (by have := HN.out; omega)
   rw [this, addA_nil] at hmath
   clear this
   subst hkn
   have c0 := cell_of_row _ _ 0 _ 74 (0, 0) hwh.b5
   have c1 := cell_of_row _ _ 1 _ 74 (0, 0) hwh.b5
   have g0 := cell_of_row _ _ 0 _ 25 (0, 0) hxb
   simp only [List.getElem?_toArray, List.getElem?_cons_zero, List.getElem?_cons_succ] at c0 c1 g0
   have hF25 : F < 2 ^ 32 := Nat.lt_of_lt_of_le hF (Nat.pow_le_pow_right (by decide) (by omega))
   have hL25 : L < 2 ^ 25 := Nat.lt_of_lt_of_le hL (Nat.pow_le_pow_right (by decide) (by omega))
   have HLK := Lib.hid (link_any hnb (HT.out.low (hkw.low 0 HPOS.out)) (Nat.le_trans HB.out hkw.size) hL25 hF25 (fun p => Nat.lt_of_lt_of_le (hbd p) (Nat.pow_le_pow_right (by decide) (by omega))))
   have HWH := Lib.hid hwh
   have HMATH := Lib.hid hmath
   by_cases h45 : x.kind = 4 ∨ x.kind = 5
   ·have hres : addX x s = (⟨s1.labs, lnk s1.fol L F⟩, F, L) := by rw [HRES.out, if_pos h45, ← hmath]
    have HR := Lib.hid hres
    clear hwh hnb hkw hbd hpn hF hL hmath hF25 hL25 hres
    rcases h45 with h4 | h5
    ·rw [h4] at g0
     go_upto_region 16 with (go_at_call 44; refine HLK.out.mono ?_; rintro e w2 ⟨rfl, hnb, hkn⟩; have HW2 := Lib.hid (HWH.out.kept hnb hkn); clear hnb hkn)
     clear c0 c1 g0
     have c0 := cell_of_row _ _ 0 _ 74 (0, 0) HW2.out.b5
     have c1 := cell_of_row _ _ 1 _ 74 (0, 0) HW2.out.b5
     have c2 := cell_of_row _ _ 0 _ 74 (0, 0) HW2.out.b4
     have c3 := cell_of_row _ _ 1 _ 74 (0, 0) HW2.out.b4
     have d0 := frz8 HW2.out.b4 0
     have d1 := frz8 HW2.out.b4 1
     simp only [List.getElem?_toArray, List.getElem?_cons_zero, List.getElem?_cons_succ] at c0 c1 c2 c3
     go_wp2_with fail
     have h0 := heap_set (k := 0) HW2.out.b4 (.int .u32 (F : Int))
     have h1 := heap_set (k := 1) h0 (.int .u32 (L : Int))
     have e0 := cell_of_row _ _ 0 _ 74 (0, 0) h1
     have e1 := cell_of_row _ _ 1 _ 74 (0, 0) h1
     simp only [List.getElem?_toArray, List.set_cons_zero, List.set_cons_succ, List.getElem?_cons_zero, List.getElem?_cons_succ] at e0 e1
     try simp only [Exit.inBlock, Exit.then]
     refine bodyPost_ret (v := .agg #[.int .u32 (F : Int), .int .u32 (L : Int)]) (by simp [results, Tryd.results43, go_sem, e0, e1]) rfl ?_
     have h2 := (HW2.out.nb.other (k := 0) HW2.out.b4 (by decide) (by decide) (.int .u32 (F : Int))).other (k := 1) h0 (by decide) (by decide) (.int .u32 (L : Int))
     rw [HR.out]
     exact ⟨_, rfl, h2, (HW2.out.kn.set_new (Nat.le_succ _) (Nat.le_trans HB.out (Nat.le_succ _)) _).set_new (Nat.le_succ _) (Nat.le_trans HB.out (Nat.le_succ _)) _⟩
    ·rw [h5] at g0
     go_upto_region 16 with (go_at_call 44; refine HLK.out.mono ?_; rintro e w2 ⟨rfl, hnb, hkn⟩; have HW2 := Lib.hid (HWH.out.kept hnb hkn); clear hnb hkn)
     clear c0 c1 g0
     have c0 := cell_of_row _ _ 0 _ 74 (0, 0) HW2.out.b5
     have c1 := cell_of_row _ _ 1 _ 74 (0, 0) HW2.out.b5
     have c2 := cell_of_row _ _ 0 _ 74 (0, 0) HW2.out.b4
     have c3 := cell_of_row _ _ 1 _ 74 (0, 0) HW2.out.b4
     have d0 := frz8 HW2.out.b4 0
     have d1 := frz8 HW2.out.b4 1
     simp only [List.getElem?_toArray, List.getElem?_cons_zero, List.getElem?_cons_succ] at c0 c1 c2 c3
     go_wp2_with fail
     have h0 := heap_set (k := 0) HW2.out.b4 (.int .u32 (F : Int))
     have h1 := heap_set (k := 1) h0 (.int .u32 (L : Int))
     have e0 := cell_of_row _ _ 0 _ 74 (0, 0) h1
     have e1 := cell_of_row _ _ 1 _ 74 (0, 0) h1
     simp only [List.getElem?_toArray, List.set_cons_zero, List.set_cons_succ, List.getElem?_cons_zero, List.getElem?_cons_succ] at e0 e1
     try simp only [Exit.inBlock, Exit.then]
     refine bodyPost_ret (v := .agg #[.int .u32 (F : Int), .int .u32 (L : Int)]) (by simp [results, Tryd.results43, go_sem, e0, e1]) rfl ?_
     have h2 := (HW2.out.nb.other (k := 0) HW2.out.b4 (by decide) (by decide) (.int .u32 (F : Int))).other (k := 1) h0 (by decide) (by decide) (.int .u32 (L : Int))
     rw [HR.out]
     exact ⟨_, rfl, h2, (HW2.out.kn.set_new (Nat.le_succ _) (Nat.le_trans HB.out (Nat.le_succ _)) _).set_new (Nat.le_succ _) (Nat.le_trans HB.out (Nat.le_succ _)) _⟩
   ·have hres : addX x s = (s1, F, L) := by rw [HRES.out, if_neg h45, ← hmath]
    have HR := Lib.hid hres
    have h4 : (x.kind == 4) = false := by simpa using fun h => h45 (.inl h)
    have h5 : (x.kind == 5) = false := by simpa using fun h => h45 (.inr h)
    clear hwh hnb hkw hbd hpn hF hL hmath hF25 hL25 hres h45
    have HW2 := HWH
    go_upto_region 16 with (fail)
    clear c0 c1 g0
    have c0 := cell_of_row _ _ 0 _ 74 (0, 0) HW2.out.b5
    have c1 := cell_of_row _ _ 1 _ 74 (0, 0) HW2.out.b5
    have c2 := cell_of_row _ _ 0 _ 74 (0, 0) HW2.out.b4
    have c3 := cell_of_row _ _ 1 _ 74 (0, 0) HW2.out.b4
    have d0 := frz8 HW2.out.b4 0
    have d1 := frz8 HW2.out.b4 1
    simp only [List.getElem?_toArray, List.getElem?_cons_zero, List.getElem?_cons_succ] at c0 c1 c2 c3
    go_wp2_with fail
    have h0 := heap_set (k := 0) HW2.out.b4 (.int .u32 (F : Int))
    have h1 := heap_set (k := 1) h0 (.int .u32 (L : Int))
    have e0 := cell_of_row _ _ 0 _ 74 (0, 0) h1
    have e1 := cell_of_row _ _ 1 _ 74 (0, 0) h1
    simp only [List.getElem?_toArray, List.set_cons_zero, List.set_cons_succ, List.getElem?_cons_zero, List.getElem?_cons_succ] at e0 e1
    try simp only [Exit.inBlock, Exit.then]
    refine bodyPost_ret (v := .agg #[.int .u32 (F : Int), .int .u32 (L : Int)]) (by simp [results, Tryd.results43, go_sem, e0, e1]) rfl ?_
    have h2 := (HW2.out.nb.other (k := 0) HW2.out.b4 (by decide) (by decide) (.int .u32 (F : Int))).other (k := 1) h0 (by decide) (by decide) (.int .u32 (L : Int))
    rw [HR.out]
    exact ⟨_, rfl, h2, (HW2.out.kn.set_new (Nat.le_succ _) (Nat.le_trans HB.out (Nat.le_succ _)) _).set_new (Nat.le_succ _) (Nat.le_trans HB.out (Nat.le_succ _)) _⟩
theorem add_any : ∀ x : X, x.good → x.sz ≤ 24 → AddC x := by
 intro x
 induction x using X.ind' with
 | h x ih =>
  intro hg hs
  have ih' : ∀ y ∈ x.kids, AddC y := fun y hy => ih y hy (hg.kids y hy) (by have := szL_mem hy; have := x.sz_eq; omega)
  by_cases h1 : x.kind = 1
  ·exact add_label hg h1
  ·by_cases h2 : x.kind = 2
   ·exact add_seq hg hs h2 ih'
   ·exact add_rest hs h1 h2 ih'
end Go.Proofs.YtnccgaanfjaimaaDoor
