/- ExprMeans: the walk. -/
import Derived.Test.YtnohnkhhkeikoaaWB
namespace Go.Proofs.Ytnohnkhhkeikoaa
open Go.ChangeShapes Go.WideShapes Go.ChangeAt Go.RowKit
set_option linter.unusedVariables false

attribute [local go_sem] Oper.semAt_some

theorem SR.take {B : Nat} {w : World} {A : Option Addr} {n c : Nat} {l : Wd} (h : SR B w (.slice A n c) l) {k : Nat} (hk : k ≤ l.length) : SR B w (.slice A k c) (l.take k) := by
  obtain ⟨A', c', e, h⟩ := h
  injection e with e1 e2 e3
  subst e1 e3
  refine ⟨A, c, by rw [List.length_take, Nat.min_eq_left hk], fun h0 => ?_⟩
  rw [List.length_take] at h0
  obtain ⟨ad, rfl, hb, hc⟩ := h (by omega)
  exact ⟨ad, rfl, hb, fun i hi => by rw [List.length_take] at hi; rw [hc i (by omega), List.getElem_take]⟩
def dropA (A : Option Addr) (c k : Nat) : Option Addr := if c = k then A else A.map fun ad => ad.add k
theorem SR.drop {B : Nat} {w : World} {A : Option Addr} {n c : Nat} {l : Wd} (h : SR B w (.slice A n c) l) (hnc : n ≤ c) {k : Nat} (hk : k ≤ l.length) : SR B w (.slice (dropA A c k) (n - k : Nat) (c - k : Nat)) (l.drop k) := by
  obtain ⟨A', c', e, h⟩ := h
  injection e with e1 e2 e3
  subst e1 e3
  refine ⟨_, c - k, by rw [List.length_drop, e2], fun h0 => ?_⟩
  rw [List.length_drop] at h0
  obtain ⟨ad, rfl, hb, hc⟩ := h (by omega)
  unfold dropA
  rw [if_neg (by omega)]
  exact ⟨ad.add k, rfl, by rw [block_add]; exact hb, fun i hi => by rw [List.length_drop] at hi; rw [add_of_add, hc (k + i) (by omega), List.getElem_drop]⟩
theorem lit_below {W W' : World} {o : Obj} (h : Gr (W.alloc o) W') : Below (W.heap.size + 1) (W.alloc o) W' := by
  have := h.below
  rwa [World.size_alloc] at this
theorem lit_step {W1 W W' : World} {o : Obj} (hb : Below W1.heap.size W1 W) (h : Gr (W.alloc o) W') : Below W1.heap.size W1 W' :=
  (hb.alloc hb.size o).trans (h.below.mono (by have := hb.size; rw [World.size_alloc]; omega))
theorem calls_base {f : FuncId} {args : Array Value} {W0 W : World} {r : Ending} (h : Calls Try.prog f args W fun e w' => e = r ∧ Below W.heap.size W w') (hb : Below W0.heap.size W0 W) :
    Calls Try.prog f args W fun e w' => e = r ∧ Below W0.heap.size W0 w' :=
  h.mono (by rintro e w1 ⟨rfl, h1⟩; exact ⟨rfl, hb.trans (h1.mono hb.size)⟩)
theorem XV.of1 {s0 : Nat} {W0 W W' : World} {k ka : Int} {la : ByteArray} {kva : Value} {a : X} (h : XV s0 W0 (.agg #[.int .i64 ka, .string la, kva]) a) (hb : Below s0 W0 W) (hs : s0 ≤ W.heap.size)
    (h2 : Below (W.heap.size + 1) (W.alloc (.cells #[.int .i64 ka, .string la, kva] 25)) W') : XV W'.heap.size W' (.agg #[.int .i64 k, .string ⟨#[]⟩, .slice (some ⟨W.heap.size, 0, none⟩) 1 1]) (ofX k [a]) := by
  obtain ⟨kv, e, hr⟩ := h
  injection e with e
  injection e with e
  injection e with e1 e
  injection e with e2 e
  injection e with e3 e
  injection e1 with _ e1
  injection e2 with e2
  subst e1 e2 e3
  have hz : W.heap.size + 1 ≤ W'.heap.size := by have := h2.size; simpa using this
  refine ⟨_, rfl, XR.one (g := W.heap.size) ((h2.block _ (by omega)).trans (at_push _ _)) (by omega) rfl rfl ?_ 1 (Nat.le_refl _)⟩
  refine (((hr.bel hb).bel ((Below.refl _ W).alloc hs _)).bel (h2.mono (by omega))).mono (by omega)
theorem XV.of2 {s0 : Nat} {W0 W W' : World} {k ka kb : Int} {la lb : ByteArray} {kva kvb : Value} {a b : X} (h : XV s0 W0 (.agg #[.int .i64 ka, .string la, kva]) a) (h' : XV s0 W0 (.agg #[.int .i64 kb, .string lb, kvb]) b) (hb : Below s0 W0 W) (hs : s0 ≤ W.heap.size)
    (h2 : Below (W.heap.size + 1) (W.alloc (.cells #[.int .i64 ka, .string la, kva, .int .i64 kb, .string lb, kvb] 25)) W') : XV W'.heap.size W' (.agg #[.int .i64 k, .string ⟨#[]⟩, .slice (some ⟨W.heap.size, 0, none⟩) 2 2]) (ofX k [a, b]) := by
  obtain ⟨kv, e, hr⟩ := h
  injection e with e
  injection e with e
  injection e with e1 e
  injection e with e2 e
  injection e with e3 e
  injection e1 with _ e1
  injection e2 with e2
  subst e1 e2 e3
  obtain ⟨kv', e, hr'⟩ := h'
  injection e with e
  injection e with e
  injection e with e1 e
  injection e with e2 e
  injection e with e3 e
  injection e1 with _ e1
  injection e2 with e2
  subst e1 e2 e3
  have hz : W.heap.size + 1 ≤ W'.heap.size := by have := h2.size; simpa using this
  refine ⟨_, rfl, XR.two (g := W.heap.size) ((h2.block _ (by omega)).trans (at_push _ _)) (by omega) rfl rfl ?_ rfl rfl ?_ 2 (Nat.le_refl _)⟩
  · exact (((hr.bel hb).bel ((Below.refl _ W).alloc hs _)).bel (h2.mono (by omega))).mono (by omega)
  · exact (((hr'.bel hb).bel ((Below.refl _ W).alloc hs _)).bel (h2.mono (by omega))).mono (by omega)

set_option maxRecDepth 100000 in
set_option maxHeartbeats 8000000 in
theorem means_any {N M : Nat} {w : World} {va vb wv : Value} {a b : X} {word : Wd} (ha : XV N w va a) (hb : XV N w vb b) (hN : N ≤ w.heap.size) (hla : a.lit) (hlb : b.lit) (hw : SR M w wv word) (hM : M ≤ w.heap.size) (hcap : ∀ A m c, wv = .slice A m c → m ≤ c) :
    Calls Try.prog 5 #[va, vb, wv] w fun e w' => e = .returned (.bool true) ∧ Below w.heap.size w w' := by
  obtain ⟨kva, rfl, hra⟩ := ha
  obtain ⟨kvb, rfl, hrb⟩ := hb
  obtain ⟨A2, c2, rfl, hw2⟩ := hw
  have hnc : word.length ≤ c2 := hcap _ _ _ rfl
  clear hcap
  obtain ⟨n, hn⟩ : ∃ n, word.length = n := ⟨_, rfl⟩
  generalize hka : a.kind = ka at *
  generalize hkl : a.lab = la at *
  generalize hkb : b.kind = kb at *
  generalize hkl2 : b.lab = lb at *
  obtain ⟨W0, hW0⟩ : ∃ W0, (w.alloc (.cells #[.int .i64 ka, .string la, kva] 25)).alloc (.cells #[.int .i64 kb, .string lb, kvb] 25) = W0 := ⟨_, rfl⟩
  have hz0 : W0.heap.size = w.heap.size + 2 := by rw [← hW0]; simp
  have hb0 : Below w.heap.size w W0 := by rw [← hW0]; exact ((Below.refl _ w).alloc (Nat.le_refl _) _).alloc (by simp) _
  have hc3 : W0.heap[w.heap.size]? = some (.cells #[.int .i64 ka, .string la, kva] 25) := by rw [← hW0, Below.heap_alloc _ _ _ (by simp)]; exact at_push _ _
  have hc4 : W0.heap[w.heap.size + 1]? = some (.cells #[.int .i64 kb, .string lb, kvb] 25) := by
    rw [← hW0]
    have := at_push (w.alloc (.cells #[.int .i64 ka, .string la, kva] 25)) (.cells #[.int .i64 kb, .string lb, kvb] 25)
    rwa [World.size_alloc] at this
  have hxa : XV W0.heap.size W0 (.agg #[.int .i64 ka, .string la, kva]) a := (XV.bel ⟨kva, by rw [hka, hkl], hra⟩ (hb0.mono hN)).mono (by omega)
  have hxb : XV W0.heap.size W0 (.agg #[.int .i64 kb, .string lb, kvb]) b := (XV.bel ⟨kvb, by rw [hkb, hkl2], hrb⟩ (hb0.mono hN)).mono (by omega)
  have hsr : SR M W0 (.slice A2 n c2) word := SR.bel ⟨A2, c2, by rw [hn], hw2⟩ (hb0.mono hM)
  have hMs : M ≤ W0.heap.size := by omega
  have HB0 := Lib.hid hb0
  have HZ := Lib.hid hz0
  have HBX := Lib.hid (fun W (h : Below W0.heap.size W0 W) => And.intro (box3 ((h.block _ (by omega)).trans hc3)) (box3 ((h.block _ (by omega)).trans hc4)))
  have HXA := Lib.hid hxa
  have HXB := Lib.hid hxb
  have HSR := Lib.hid (And.intro hsr hMs)
  have HLA := Lib.hid (And.intro hla hlb)
  have HN := Lib.hid hn
  obtain ⟨gr, hgr⟩ : ∃ gr : Bool, gr = decide (300 < gsum [a, b] 0 ∨ 30 < n) := ⟨_, rfl⟩
  have HGE := Lib.hid hgr
  have HGR := Lib.hid (fun (W : World) (h : Below W0.heap.size W0 W) =>
    (show Calls Try.prog 7 #[.slice A2 n c2, .slice (some ⟨W.heap.size, 0, none⟩) 2 2] (W.alloc (.cells #[.int .i64 ka, .string la, kva, .int .i64 kb, .string lb, kvb] 25)) (fun e w' => e = .returned (.bool gr) ∧ Below W0.heap.size W0 w') by
      have hb1 : Below (W.heap.size + 1) (W.alloc (.cells #[.int .i64 ka, .string la, kva, .int .i64 kb, .string lb, kvb] 25)) (W.alloc (.cells #[.int .i64 ka, .string la, kva, .int .i64 kb, .string lb, kvb] 25)) := Below.refl _ _
      obtain ⟨kv, e, hr⟩ := XV.of2 (k := 3) hxa hxb h h.size hb1
      injection e with e
      injection e with e
      injection e with _ e
      injection e with _ e
      injection e with e _
      subst e
      refine (great_any hr (Nat.le_refl _) A2 n c2).mono ?_
      rintro e w1 ⟨rfl, h1⟩
      refine ⟨by rw [hgr]; rfl, h.trans ((((Below.refl _ W).alloc (Nat.le_refl _) _).trans (h1.below.mono (by simp))).mono h.size)⟩))
  have H8 := Lib.hid (fun (W : World) (h : Below W0.heap.size W0 W) => calls_base (awake_any W) h)
  have hszs : gr = false → a.sz + b.sz ≤ 300 ∧ n ≤ 30 := fun h => by
    rw [hgr] at h
    have h1 := of_decide_eq_false h
    have h2 := gsum_eq (xs := [a, b]) (by omega)
    rw [szL_two] at h2
    exact ⟨h2, by omega⟩
  have HSZ := Lib.hid hszs
  clear hra hrb hw2 hb0 hc3 hc4 hxa hxb hsr hla hlb hN hM hz0 hMs hgr hszs
  rw [hn] at hnc ⊢
  clear hka hkl hkb hkl2 hn
  obtain ⟨⟨d0, d1, d2⟩, d3, d4, d5⟩ := HBX.out W0 (Below.refl _ _)
  have HREFL := Lib.hid (Below.refl W0.heap.size W0)
  cases hgv : gr with
  | true =>
    rw [hgv] at HGR
    clear hgv
    go_enter Try.func5, Try.ntmps5
    go_upto_region 1 with (fail)
    try rw [hW0]
    go_wp2_with (first
      | (go_at_call 8; refine (H8.out _ HREFL.out).mono ?_; rintro e w1 ⟨rfl, h1⟩; have H1 := Lib.hid h1; obtain ⟨⟨d0, d1, d2⟩, d3, d4, d5⟩ := HBX.out _ h1; clear h1)
      | (go_at_call 7; refine (HGR.out _ H1.out).mono ?_; rintro e w2 ⟨rfl, h2⟩; have H2 := Lib.hid h2; obtain ⟨⟨d0, d1, d2⟩, d3, d4, d5⟩ := HBX.out _ h2; clear h2)
      | (go_at_call 12; first | (refine (HRB.out _ H3.out).mono ?_; rintro e w4 ⟨rfl, h4⟩; have H4 := Lib.hid h4; obtain ⟨⟨d0, d1, d2⟩, d3, d4, d5⟩ := HBX.out _ h4; clear h4) | (refine (HRA.out _ H2.out).mono ?_; rintro e w3 ⟨rfl, h3⟩; have H3 := Lib.hid h3; obtain ⟨⟨d0, d1, d2⟩, d3, d4, d5⟩ := HBX.out _ h3; clear h3))
      | (go_at_call 14; first | (refine (HSB.out _ H5.out).mono ?_; rintro e w6 ⟨rfl, h6⟩; have H6 := Lib.hid h6; obtain ⟨⟨d0, d1, d2⟩, d3, d4, d5⟩ := HBX.out _ h6; clear h6) | (refine (HSA.out _ H4.out).mono ?_; rintro e w5 ⟨rfl, h5⟩; have H5 := Lib.hid h5; obtain ⟨⟨d0, d1, d2⟩, d3, d4, d5⟩ := HBX.out _ h5; clear h5)))
    go_ret
    exact ⟨rfl, HB0.out.trans (H2.out.mono HB0.out.size)⟩
  | false =>
    obtain ⟨hs1, hn30⟩ := HSZ.out hgv
    rw [hgv] at HGR
    clear hgv HSZ HGE
    have HRA := Lib.hid (fun (W : World) (h : Below W0.heap.size W0 W) => calls_base (right12_any (HXA.out.bel h) h.size (by omega) HLA.out.1) h)
    have HRB := Lib.hid (fun (W : World) (h : Below W0.heap.size W0 W) => calls_base (right12_any (HXB.out.bel h) h.size (by omega) HLA.out.2) h)
    have HSA := Lib.hid (fun (W : World) (h : Below W0.heap.size W0 W) => calls_base (size14_any (HXA.out.bel h) h.size (by omega)) h)
    have HSB := Lib.hid (fun (W : World) (h : Below W0.heap.size W0 W) => calls_base (size14_any (HXB.out.bel h) h.size (by omega)) h)
    have HRT := Lib.hid (show ∃ x y, a.right = x ∧ b.right = y from ⟨_, _, rfl, rfl⟩)
    obtain ⟨ra, rb, hra, hrb⟩ := HRT.out
    have HRE := Lib.hid (And.intro hra hrb)
    rw [hra] at HRA
    rw [hrb] at HRB
    clear hra hrb HRT
    cases ra with
    | false =>
      go_enter Try.func5, Try.ntmps5
      go_upto_region 1 with (fail)
      try rw [hW0]
      go_wp2_with (first
        | (go_at_call 8; refine (H8.out _ HREFL.out).mono ?_; rintro e w1 ⟨rfl, h1⟩; have H1 := Lib.hid h1; obtain ⟨⟨d0, d1, d2⟩, d3, d4, d5⟩ := HBX.out _ h1; clear h1)
        | (go_at_call 7; refine (HGR.out _ H1.out).mono ?_; rintro e w2 ⟨rfl, h2⟩; have H2 := Lib.hid h2; obtain ⟨⟨d0, d1, d2⟩, d3, d4, d5⟩ := HBX.out _ h2; clear h2)
        | (go_at_call 12; first | (refine (HRB.out _ H3.out).mono ?_; rintro e w4 ⟨rfl, h4⟩; have H4 := Lib.hid h4; obtain ⟨⟨d0, d1, d2⟩, d3, d4, d5⟩ := HBX.out _ h4; clear h4) | (refine (HRA.out _ H2.out).mono ?_; rintro e w3 ⟨rfl, h3⟩; have H3 := Lib.hid h3; obtain ⟨⟨d0, d1, d2⟩, d3, d4, d5⟩ := HBX.out _ h3; clear h3))
        | (go_at_call 14; first | (refine (HSB.out _ H5.out).mono ?_; rintro e w6 ⟨rfl, h6⟩; have H6 := Lib.hid h6; obtain ⟨⟨d0, d1, d2⟩, d3, d4, d5⟩ := HBX.out _ h6; clear h6) | (refine (HSA.out _ H4.out).mono ?_; rintro e w5 ⟨rfl, h5⟩; have H5 := Lib.hid h5; obtain ⟨⟨d0, d1, d2⟩, d3, d4, d5⟩ := HBX.out _ h5; clear h5)))
      go_ret
      exact ⟨rfl, HB0.out.trans (H3.out.mono HB0.out.size)⟩
    | true =>
      cases rb with
      | false =>
        go_enter Try.func5, Try.ntmps5
        go_upto_region 1 with (fail)
        try rw [hW0]
        go_wp2_with (first
          | (go_at_call 8; refine (H8.out _ HREFL.out).mono ?_; rintro e w1 ⟨rfl, h1⟩; have H1 := Lib.hid h1; obtain ⟨⟨d0, d1, d2⟩, d3, d4, d5⟩ := HBX.out _ h1; clear h1)
          | (go_at_call 7; refine (HGR.out _ H1.out).mono ?_; rintro e w2 ⟨rfl, h2⟩; have H2 := Lib.hid h2; obtain ⟨⟨d0, d1, d2⟩, d3, d4, d5⟩ := HBX.out _ h2; clear h2)
          | (go_at_call 12; first | (refine (HRB.out _ H3.out).mono ?_; rintro e w4 ⟨rfl, h4⟩; have H4 := Lib.hid h4; obtain ⟨⟨d0, d1, d2⟩, d3, d4, d5⟩ := HBX.out _ h4; clear h4) | (refine (HRA.out _ H2.out).mono ?_; rintro e w3 ⟨rfl, h3⟩; have H3 := Lib.hid h3; obtain ⟨⟨d0, d1, d2⟩, d3, d4, d5⟩ := HBX.out _ h3; clear h3))
          | (go_at_call 14; first | (refine (HSB.out _ H5.out).mono ?_; rintro e w6 ⟨rfl, h6⟩; have H6 := Lib.hid h6; obtain ⟨⟨d0, d1, d2⟩, d3, d4, d5⟩ := HBX.out _ h6; clear h6) | (refine (HSA.out _ H4.out).mono ?_; rintro e w5 ⟨rfl, h5⟩; have H5 := Lib.hid h5; obtain ⟨⟨d0, d1, d2⟩, d3, d4, d5⟩ := HBX.out _ h5; clear h5)))
        go_ret
        exact ⟨rfl, HB0.out.trans (H4.out.mono HB0.out.size)⟩
      | true =>
        by_cases hsa : a.sz ≤ 11
        · by_cases hsb : b.sz ≤ 11
          · have i1 : ¬ ((11 : Int) < (a.sz : Int)) := by omega
            have i2 : ¬ ((11 : Int) < (b.sz : Int)) := by omega
            go_enter Try.func5, Try.ntmps5
            go_upto_region 1 with (fail)
            try rw [hW0]
            go_upto_region 5 with (first
              | (go_at_call 8; refine (H8.out _ HREFL.out).mono ?_; rintro e w1 ⟨rfl, h1⟩; have H1 := Lib.hid h1; obtain ⟨⟨d0, d1, d2⟩, d3, d4, d5⟩ := HBX.out _ h1; clear h1)
              | (go_at_call 7; refine (HGR.out _ H1.out).mono ?_; rintro e w2 ⟨rfl, h2⟩; have H2 := Lib.hid h2; obtain ⟨⟨d0, d1, d2⟩, d3, d4, d5⟩ := HBX.out _ h2; clear h2)
              | (go_at_call 12; first | (refine (HRB.out _ H3.out).mono ?_; rintro e w4 ⟨rfl, h4⟩; have H4 := Lib.hid h4; obtain ⟨⟨d0, d1, d2⟩, d3, d4, d5⟩ := HBX.out _ h4; clear h4) | (refine (HRA.out _ H2.out).mono ?_; rintro e w3 ⟨rfl, h3⟩; have H3 := Lib.hid h3; obtain ⟨⟨d0, d1, d2⟩, d3, d4, d5⟩ := HBX.out _ h3; clear h3))
              | (go_at_call 14; first | (refine (HSB.out _ H5.out).mono ?_; rintro e w6 ⟨rfl, h6⟩; have H6 := Lib.hid h6; obtain ⟨⟨d0, d1, d2⟩, d3, d4, d5⟩ := HBX.out _ h6; clear h6) | (refine (HSA.out _ H4.out).mono ?_; rintro e w5 ⟨rfl, h5⟩; have H5 := Lib.hid h5; obtain ⟨⟨d0, d1, d2⟩, d3, d4, d5⟩ := HBX.out _ h5; clear h5)))
            clear i1 i2
            go_upto_region 6 with (go_at_call 29; refine (of_any _ _ _ _ _).mono ?_; rintro e w7 ⟨rfl, h7⟩)
            obtain ⟨W1, hW1⟩ : ∃ W1, w7.alloc (.cells #[.int .i64 4, .string ⟨#[]⟩, .slice (some ⟨w6.heap.size, 0, none⟩) 1 1] 25) = W1 := ⟨_, rfl⟩
            try rw [hW1]
            have hsz7 : w6.heap.size + 1 ≤ w7.heap.size := by have := h7.below.size; simpa using this
            have hst7 := XV.of1 (k := 4) HXA.out H6.out H6.out.size (by simpa using h7.below)
            have hb7 : Below W0.heap.size W0 w7 := (H6.out.alloc H6.out.size (.cells #[.int .i64 ka, .string la, kva] 25)).trans (h7.below.mono (by simp; have := H6.out.size; omega))
            have hb1 : Below W0.heap.size W0 W1 := by rw [← hW1]; exact hb7.alloc hb7.size _
            have hz1 : W1.heap.size = w7.heap.size + 1 := by rw [← hW1]; simp
            have hc7 : W1.heap[w7.heap.size]? = some (.cells #[.int .i64 4, .string ⟨#[]⟩, .slice (some ⟨w6.heap.size, 0, none⟩) 1 1] 25) := by rw [← hW1]; exact at_push _ _
            have hst : XV W1.heap.size W1 (.agg #[.int .i64 4, .string ⟨#[]⟩, .slice (some ⟨w6.heap.size, 0, none⟩) 1 1]) (ofX 4 [a]) := (hst7.bel (by rw [← hW1]; exact (Below.refl _ w7).alloc (Nat.le_refl _) _)).mono (by omega)
            have HB1 := Lib.hid hb1
            have HXA1 := Lib.hid ((HXA.out.bel hb1).mono hb1.size)
            have HXB1 := Lib.hid ((HXB.out.bel hb1).mono hb1.size)
            have HST := Lib.hid hst
            have HBX1 := Lib.hid (fun W (h : Below W1.heap.size W1 W) => HBX.out W (hb1.trans (h.mono hb1.size)))
            have HBS1 := Lib.hid (fun W (h : Below W1.heap.size W1 W) => box3 ((h.block _ (by omega)).trans hc7))
            have HBY1 := Lib.hid (fun W (h : Below W1.heap.size W1 W) => And.intro (HBX1.out W h) (HBS1.out W h))
            have hsr1 := HSR.out.1.bel (hb1.mono HSR.out.2)
            have HSR1 := Lib.hid (And.intro hsr1 (Nat.le_trans HSR.out.2 hb1.size))
            have HTX := Lib.hid (fun (W : World) (v : Value) (x : X) (r : Bool) (hx : XV W.heap.size W v x) (hG : Below W1.heap.size W1 W) (hsz : x.sz ≤ 100000) (hl : x.lit) (hr : takesB x word = r) =>
              (show Calls Try.prog 20 #[v, .slice A2 n c2] W (fun e w' => e = .returned (.bool r) ∧ Below W1.heap.size W1 w') by
                have h1 := takes20_any hx (Nat.le_refl _) hsz hl (HSR1.out.1.bel (hG.mono HSR1.out.2)) (Nat.le_trans HSR1.out.2 hG.size) (by have := HN.out; omega)
                rw [hr] at h1
                exact calls_base h1 hG))
            have HLAB := Lib.hid (lit_of (k := 3) (ks := [a, b]) (fun y hy => by
              rcases List.mem_cons.1 hy with rfl | hy
              · exact HLA.out.1
              · rw [List.mem_singleton] at hy; subst hy; exact HLA.out.2))
            have HLAO := Lib.hid (fun k => lit_of (k := k) (ks := [a]) (fun y hy => by rw [List.mem_singleton] at hy; subst hy; exact HLA.out.1))
            have HTALT0 := Lib.hid (takes_alt HRE.out.1 HRE.out.2 hsa hsb word)
            have HTOPT0 := Lib.hid (takes_opt HRE.out.1 hsa word)
            have HTKA := Lib.hid (fun (k : Nat) (r : Bool) (hk : k ≤ n) (hr : takesB a (word.take k) = r) (W : World) (hG : Below W1.heap.size W1 W) =>
              (show Calls Try.prog 20 #[.agg #[.int .i64 ka, .string la, kva], .slice A2 k c2] W (fun e w' => e = .returned (.bool r) ∧ Below W1.heap.size W1 w') by
                have h1 := takes20_any ((HXA1.out.bel hG).mono hG.size) (Nat.le_refl _) (by omega) HLA.out.1 ((HSR1.out.1.bel (hG.mono HSR1.out.2)).take (k := k) (by have := HN.out; omega)) (Nat.le_trans HSR1.out.2 hG.size) (by have := HN.out; simp only [List.length_take, List.length_drop]; omega)
                rw [hr] at h1
                exact calls_base h1 hG))
            have HTDA := Lib.hid (fun (k : Nat) (r : Bool) (hk : k ≤ n) (hr : takesB b (word.drop k) = r) (W : World) (hG : Below W1.heap.size W1 W) =>
              (show Calls Try.prog 20 #[.agg #[.int .i64 kb, .string lb, kvb], .slice (dropA A2 c2 k) (n - k : Nat) (c2 - k : Nat)] W (fun e w' => e = .returned (.bool r) ∧ Below W1.heap.size W1 w') by
                have h1 := takes20_any ((HXB1.out.bel hG).mono hG.size) (Nat.le_refl _) (by omega) HLA.out.2 ((HSR1.out.1.bel (hG.mono HSR1.out.2)).drop hnc (k := k) (by have := HN.out; omega)) (Nat.le_trans HSR1.out.2 hG.size) (by have := HN.out; simp only [List.length_take, List.length_drop]; omega)
                rw [hr] at h1
                exact calls_base h1 hG))
            have HTSA := Lib.hid (fun (k : Nat) (r : Bool) (hk : k ≤ n) (hr : takesB (ofX 4 [a]) (word.drop k) = r) (W : World) (hG : Below W1.heap.size W1 W) =>
              (show Calls Try.prog 20 #[.agg #[.int .i64 4, .string ⟨#[]⟩, .slice (some ⟨w6.heap.size, 0, none⟩) 1 1], .slice (dropA A2 c2 k) (n - k : Nat) (c2 - k : Nat)] W (fun e w' => e = .returned (.bool r) ∧ Below W1.heap.size W1 w') by
                have h1 := takes20_any ((HST.out.bel hG).mono hG.size) (Nat.le_refl _) (by rw [ofX_sz, szL_one]; omega) (HLAO.out _) ((HSR1.out.1.bel (hG.mono HSR1.out.2)).drop hnc (k := k) (by have := HN.out; omega)) (Nat.le_trans HSR1.out.2 hG.size) (by have := HN.out; simp only [List.length_take, List.length_drop]; omega)
                rw [hr] at h1
                exact calls_base h1 hG))
            obtain ⟨fS, hFS⟩ : ∃ f : Nat → Bool, f = fun k => takesB a (word.take k) && takesB b (word.drop k) := ⟨_, rfl⟩
            obtain ⟨fM, hFM⟩ : ∃ f : Nat → Bool, f = fun k => decide (0 < k) && takesB a (word.take k) && takesB (ofX 4 [a]) (word.drop k) := ⟨_, rfl⟩
            obtain ⟨fP, hFP⟩ : ∃ f : Nat → Bool, f = fun k => takesB a (word.take k) && takesB (ofX 4 [a]) (word.drop k) := ⟨_, rfl⟩
            have HF := Lib.hid (And.intro hFS (And.intro hFM hFP))
            clear hFS hFM hFP
            obtain ⟨ta, hta⟩ : ∃ ta, takesB a word = ta := ⟨_, rfl⟩
            obtain ⟨tb, htb⟩ : ∃ tb, takesB b word = tb := ⟨_, rfl⟩
            have HTA := Lib.hid hta
            have HTB := Lib.hid htb
            rw [hta, htb] at HTALT0
            rw [hta] at HTOPT0
            have HTE := Lib.hid (show ta = ta from rfl)
            have G0 := Lib.hid (Below.refl W1.heap.size W1).drew
            clear hta htb hsr1 hst hc7 hz1 hb1 hb7 hst7 hsz7 h7 d0 d1 d2 d3 d4 d5
            go_cut [73] from 43 to 73 (fun c wx => c = .bool false ∧ Below W1.heap.size W1 wx)
            case first =>
              rcases Nat.eq_zero_or_pos n with hn0 | hn0
              · subst hn0
                have HTOPT := Lib.hid (show takesB (ofX 6 [a]) word = true by rw [HTOPT0.out, HN.out]; rfl)
                cases ta with
                | true =>
                  have HTALT := Lib.hid (show takesB (ofX 3 [a, b]) word = true from HTALT0.out)
                  refine wp_region_noPanic ?_
                  refine wp_region_held_drew (S := fun W => ((W.cell? ⟨w.heap.size, 0, none⟩ = some (.int .i64 ka) ∧ W.cell? ⟨w.heap.size, 1, none⟩ = some (.string la) ∧ W.cell? ⟨w.heap.size, 2, none⟩ = some kva) ∧ W.cell? ⟨w.heap.size + 1, 0, none⟩ = some (.int .i64 kb) ∧ W.cell? ⟨w.heap.size + 1, 1, none⟩ = some (.string lb) ∧ W.cell? ⟨w.heap.size + 1, 2, none⟩ = some kvb)) (by kernel_rfl) (HBX1.out _ G0.out) (fun hHeld => ?_)
                  clear hHeld
                  refine wpAnyH_take (i := 0) (v := .agg #[.int .i64 ka, .string la, kva]) rfl (by kernel_rfl) (by kernel_rfl) (by kernel_rfl) (fun _ _ _ h => (h : False).elim) (Or.inl ⟨by rfl, ?_⟩) (HBX1.out _ G0.out) ?_
                  · intro w hSw
                    obtain ⟨⟨hs0, hs1, hs2⟩, hs3, hs4, hs5⟩ := hSw
                    go_simp
                  try simp only [Act.put, List.getElem_toArray, List.getElem_cons_zero, List.getElem_cons_succ, List.setIfInBounds_toArray, List.set_cons_zero, List.set_cons_succ]
                  refine wpAnyH_take (i := 1) (v := .agg #[.int .i64 kb, .string lb, kvb]) rfl (by kernel_rfl) (by kernel_rfl) (by kernel_rfl) (fun _ _ _ h => (h : False).elim) (Or.inl ⟨by rfl, ?_⟩) (HBX1.out _ G0.out) ?_
                  · intro w hSw
                    obtain ⟨⟨hs0, hs1, hs2⟩, hs3, hs4, hs5⟩ := hSw
                    go_simp
                  try simp only [Act.put, List.getElem_toArray, List.getElem_cons_zero, List.getElem_cons_succ, List.setIfInBounds_toArray, List.set_cons_zero, List.set_cons_succ]
                  refine wpAnyH_take (i := 4) (v := .slice A2 0 c2) rfl (by kernel_rfl) (by kernel_rfl) (by kernel_rfl) (fun _ _ _ h => (h : False).elim) (Or.inl ⟨by rfl, ?_⟩) (HBX1.out _ G0.out) ?_
                  · intro w hSw
                    obtain ⟨⟨hs0, hs1, hs2⟩, hs3, hs4, hs5⟩ := hSw
                    go_simp
                  try simp only [Act.put, List.getElem_toArray, List.getElem_cons_zero, List.getElem_cons_succ, List.setIfInBounds_toArray, List.set_cons_zero, List.set_cons_succ]
                  refine wpAnyH_take (i := 6) (v := .agg #[.int .i64 ka, .string la, kva]) rfl (by kernel_rfl) (by kernel_rfl) (by kernel_rfl) (fun _ _ _ h => (h : False).elim) (Or.inl ⟨by rfl, ?_⟩) (HBX1.out _ G0.out) ?_
                  · intro w hSw
                    obtain ⟨⟨hs0, hs1, hs2⟩, hs3, hs4, hs5⟩ := hSw
                    go_simp
                  try simp only [Act.put, List.getElem_toArray, List.getElem_cons_zero, List.getElem_cons_succ, List.setIfInBounds_toArray, List.set_cons_zero, List.set_cons_succ]
                  refine wpAnyH_take (i := 7) (v := .slice A2 0 c2) rfl (by kernel_rfl) (by kernel_rfl) (by kernel_rfl) (fun _ _ _ h => (h : False).elim) (Or.inl ⟨by rfl, ?_⟩) (HBX1.out _ G0.out) ?_
                  · intro w hSw
                    obtain ⟨⟨hs0, hs1, hs2⟩, hs3, hs4, hs5⟩ := hSw
                    go_simp
                  try simp only [Act.put, List.getElem_toArray, List.getElem_cons_zero, List.getElem_cons_succ, List.setIfInBounds_toArray, List.set_cons_zero, List.set_cons_succ]
                  refine wpAnyH_ready (rs := [2]) (by kernel_rfl) (by simp) ?_
                  refine AllReadyH.cons rfl (fun K hK => ?_) AllReadyH.nil
                  go_simp
                  have G2 := Lib.hid (G0.out.alloc G0.out.size (.cells #[.int .i64 ka, .string la, kva, .int .i64 kb, .string lb, kvb] 25))
                  refine hK.out _ _ (HBX1.out _ G2.out) (fun _ => ?_)
                  clear hK
                  try simp only [Act.put, List.getElem_toArray, List.getElem_cons_zero, List.getElem_cons_succ, List.setIfInBounds_toArray, List.set_cons_zero, List.set_cons_succ]
                  refine wpAnyH_ready (rs := [3]) (by kernel_rfl) (by simp) ?_
                  refine AllReadyH.cons rfl (fun K hK => ?_) AllReadyH.nil
                  go_simp
                  refine (of_any _ _ _ _ _).mono ?_
                  rintro e u3 ⟨rfl, hq⟩
                  have G3 := Lib.hid (G2.out.trans (hq.below.mono G2.out.size))
                  have X3 := Lib.hid (XV.of2 (k := 3) HXA1.out HXB1.out G0.out G0.out.size (lit_below hq))
                  clear hq
                  refine hK.out _ _ (HBX1.out _ G3.out) (fun _ => ?_)
                  clear hK
                  try simp only [Act.put, List.getElem_toArray, List.getElem_cons_zero, List.getElem_cons_succ, List.setIfInBounds_toArray, List.set_cons_zero, List.set_cons_succ]
                  refine wpAnyH_ready (rs := [5]) (by kernel_rfl) (by simp) ?_
                  refine AllReadyH.cons rfl (fun K hK => ?_) AllReadyH.nil
                  go_simp
                  refine (HTX.out _ _ _ _ X3.out G3.out (by rw [ofX_sz, szL_two]; omega) HLAB.out HTALT.out).mono ?_
                  rintro e u5 ⟨rfl, hq⟩
                  have G5 := Lib.hid hq
                  clear hq
                  refine hK.out _ _ (HBX1.out _ G5.out) (fun _ => ?_)
                  clear hK
                  try simp only [Act.put, List.getElem_toArray, List.getElem_cons_zero, List.getElem_cons_succ, List.setIfInBounds_toArray, List.set_cons_zero, List.set_cons_succ]
                  refine wpAnyH_ready (rs := [8]) (by kernel_rfl) (by simp) ?_
                  refine AllReadyH.cons rfl (fun K hK => ?_) AllReadyH.nil
                  go_simp
                  refine (HTX.out _ _ _ _ ((HXA1.out.bel G5.out).mono G5.out.size) G5.out (by omega) HLA.out.1 HTA.out).mono ?_
                  rintro e u8 ⟨rfl, hq⟩
                  have G8 := Lib.hid hq
                  clear hq
                  refine hK.out _ _ (HBX1.out _ G8.out) (fun _ => ?_)
                  clear hK
                  try simp only [Act.put, List.getElem_toArray, List.getElem_cons_zero, List.getElem_cons_succ, List.setIfInBounds_toArray, List.set_cons_zero, List.set_cons_succ]
                  refine wpAnyH_take (i := 9) (v := .bool true) rfl (by kernel_rfl) (by kernel_rfl) (by kernel_rfl) (fun _ _ _ h => (h : False).elim) (Or.inl ⟨by rfl, ?_⟩) (HBX1.out _ G8.out) ?_
                  · intro w hSw
                    obtain ⟨⟨hs0, hs1, hs2⟩, hs3, hs4, hs5⟩ := hSw
                    go_simp
                  try simp only [Act.put, List.getElem_toArray, List.getElem_cons_zero, List.getElem_cons_succ, List.setIfInBounds_toArray, List.set_cons_zero, List.set_cons_succ]
                  refine wpAnyH_take (i := 10) (v := undef) rfl (by kernel_rfl) (by kernel_rfl) (by kernel_rfl) (fun _ _ _ h => (h : False).elim) (Or.inr ⟨by rfl, rfl⟩) (HBX1.out _ G8.out) ?_
                  try simp only [Act.put, List.getElem_toArray, List.getElem_cons_zero, List.getElem_cons_succ, List.setIfInBounds_toArray, List.set_cons_zero, List.set_cons_succ]
                  refine wpAnyH_take (i := 11) (v := undef) rfl (by kernel_rfl) (by kernel_rfl) (by kernel_rfl) (fun _ _ _ h => (h : False).elim) (Or.inr ⟨by rfl, rfl⟩) (HBX1.out _ G8.out) ?_
                  try simp only [Act.put, List.getElem_toArray, List.getElem_cons_zero, List.getElem_cons_succ, List.setIfInBounds_toArray, List.set_cons_zero, List.set_cons_succ]
                  refine wpAnyH_take (i := 12) (v := undef) rfl (by kernel_rfl) (by kernel_rfl) (by kernel_rfl) (fun _ _ _ h => (h : False).elim) (Or.inr ⟨by rfl, rfl⟩) (HBX1.out _ G8.out) ?_
                  try simp only [Act.put, List.getElem_toArray, List.getElem_cons_zero, List.getElem_cons_succ, List.setIfInBounds_toArray, List.set_cons_zero, List.set_cons_succ]
                  refine wpAnyH_take (i := 13) (v := .bool true) rfl (by kernel_rfl) (by kernel_rfl) (by kernel_rfl) (fun _ _ _ h => (h : False).elim) (Or.inl ⟨by rfl, ?_⟩) (HBX1.out _ G8.out) ?_
                  · intro w hSw
                    obtain ⟨⟨hs0, hs1, hs2⟩, hs3, hs4, hs5⟩ := hSw
                    go_simp
                  try simp only [Act.put, List.getElem_toArray, List.getElem_cons_zero, List.getElem_cons_succ, List.setIfInBounds_toArray, List.set_cons_zero, List.set_cons_succ]
                  refine wpAnyH_take (i := 14) (v := .bool false) rfl (by kernel_rfl) (by kernel_rfl) (by kernel_rfl) (fun _ _ _ h => (h : False).elim) (Or.inl ⟨by rfl, ?_⟩) (HBX1.out _ G8.out) ?_
                  · intro w hSw
                    obtain ⟨⟨hs0, hs1, hs2⟩, hs3, hs4, hs5⟩ := hSw
                    go_simp
                  try simp only [Act.put, List.getElem_toArray, List.getElem_cons_zero, List.getElem_cons_succ, List.setIfInBounds_toArray, List.set_cons_zero, List.set_cons_succ]
                  refine wpAnyH_take (i := 15) (v := .bool false) rfl (by kernel_rfl) (by kernel_rfl) (by kernel_rfl) (fun _ _ _ h => (h : False).elim) (Or.inl ⟨by rfl, ?_⟩) (HBX1.out _ G8.out) ?_
                  · intro w hSw
                    obtain ⟨⟨hs0, hs1, hs2⟩, hs3, hs4, hs5⟩ := hSw
                    go_simp
                  try simp only [Act.put, List.getElem_toArray, List.getElem_cons_zero, List.getElem_cons_succ, List.setIfInBounds_toArray, List.set_cons_zero, List.set_cons_succ]
                  refine wpAnyH_take (i := 16) (v := .agg #[.int .i64 ka, .string la, kva]) rfl (by kernel_rfl) (by kernel_rfl) (by kernel_rfl) (fun _ _ _ h => (h : False).elim) (Or.inl ⟨by rfl, ?_⟩) (HBX1.out _ G8.out) ?_
                  · intro w hSw
                    obtain ⟨⟨hs0, hs1, hs2⟩, hs3, hs4, hs5⟩ := hSw
                    go_simp
                  try simp only [Act.put, List.getElem_toArray, List.getElem_cons_zero, List.getElem_cons_succ, List.setIfInBounds_toArray, List.set_cons_zero, List.set_cons_succ]
                  refine wpAnyH_take (i := 19) (v := .slice A2 0 c2) rfl (by kernel_rfl) (by kernel_rfl) (by kernel_rfl) (fun _ _ _ h => (h : False).elim) (Or.inl ⟨by rfl, ?_⟩) (HBX1.out _ G8.out) ?_
                  · intro w hSw
                    obtain ⟨⟨hs0, hs1, hs2⟩, hs3, hs4, hs5⟩ := hSw
                    go_simp
                  try simp only [Act.put, List.getElem_toArray, List.getElem_cons_zero, List.getElem_cons_succ, List.setIfInBounds_toArray, List.set_cons_zero, List.set_cons_succ]
                  refine wpAnyH_take (i := 21) (v := .slice A2 0 c2) rfl (by kernel_rfl) (by kernel_rfl) (by kernel_rfl) (fun _ _ _ h => (h : False).elim) (Or.inl ⟨by rfl, ?_⟩) (HBX1.out _ G8.out) ?_
                  · intro w hSw
                    obtain ⟨⟨hs0, hs1, hs2⟩, hs3, hs4, hs5⟩ := hSw
                    go_simp
                  try simp only [Act.put, List.getElem_toArray, List.getElem_cons_zero, List.getElem_cons_succ, List.setIfInBounds_toArray, List.set_cons_zero, List.set_cons_succ]
                  refine wpAnyH_take (i := 22) (v := .int .i64 0) rfl (by kernel_rfl) (by kernel_rfl) (by kernel_rfl) (fun _ _ _ h => (h : False).elim) (Or.inl ⟨by rfl, ?_⟩) (HBX1.out _ G8.out) ?_
                  · intro w hSw
                    obtain ⟨⟨hs0, hs1, hs2⟩, hs3, hs4, hs5⟩ := hSw
                    go_simp
                  try simp only [Act.put, List.getElem_toArray, List.getElem_cons_zero, List.getElem_cons_succ, List.setIfInBounds_toArray, List.set_cons_zero, List.set_cons_succ]
                  refine wpAnyH_take (i := 23) (v := .bool true) rfl (by kernel_rfl) (by kernel_rfl) (by kernel_rfl) (fun _ _ _ h => (h : False).elim) (Or.inl ⟨by rfl, ?_⟩) (HBX1.out _ G8.out) ?_
                  · intro w hSw
                    obtain ⟨⟨hs0, hs1, hs2⟩, hs3, hs4, hs5⟩ := hSw
                    (go_simp; try omega)
                  try simp only [Act.put, List.getElem_toArray, List.getElem_cons_zero, List.getElem_cons_succ, List.setIfInBounds_toArray, List.set_cons_zero, List.set_cons_succ]
                  refine wpAnyH_ready (rs := [17]) (by kernel_rfl) (by simp) ?_
                  refine AllReadyH.cons rfl (fun K hK => ?_) AllReadyH.nil
                  go_simp
                  have G17 := Lib.hid (G8.out.alloc G8.out.size (.cells #[.int .i64 ka, .string la, kva] 25))
                  refine hK.out _ _ (HBX1.out _ G17.out) (fun _ => ?_)
                  clear hK
                  try simp only [Act.put, List.getElem_toArray, List.getElem_cons_zero, List.getElem_cons_succ, List.setIfInBounds_toArray, List.set_cons_zero, List.set_cons_succ]
                  refine wpAnyH_ready (rs := [18]) (by kernel_rfl) (by simp) ?_
                  refine AllReadyH.cons rfl (fun K hK => ?_) AllReadyH.nil
                  go_simp
                  refine (of_any _ _ _ _ _).mono ?_
                  rintro e u18 ⟨rfl, hq⟩
                  have G18 := Lib.hid (G17.out.trans (hq.below.mono G17.out.size))
                  have X18 := Lib.hid (XV.of1 (k := 6) HXA1.out G8.out G8.out.size (lit_below hq))
                  clear hq
                  refine hK.out _ _ (HBX1.out _ G18.out) (fun _ => ?_)
                  clear hK
                  try simp only [Act.put, List.getElem_toArray, List.getElem_cons_zero, List.getElem_cons_succ, List.setIfInBounds_toArray, List.set_cons_zero, List.set_cons_succ]
                  refine wpAnyH_ready (rs := [20]) (by kernel_rfl) (by simp) ?_
                  refine AllReadyH.cons rfl (fun K hK => ?_) AllReadyH.nil
                  go_simp
                  refine (HTX.out _ _ _ _ X18.out G18.out (by rw [ofX_sz, szL_one]; omega) (HLAO.out _) HTOPT.out).mono ?_
                  rintro e u20 ⟨rfl, hq⟩
                  have G20 := Lib.hid hq
                  clear hq
                  refine hK.out _ _ (HBX1.out _ G20.out) (fun _ => ?_)
                  clear hK
                  try simp only [Act.put, List.getElem_toArray, List.getElem_cons_zero, List.getElem_cons_succ, List.setIfInBounds_toArray, List.set_cons_zero, List.set_cons_succ]
                  refine wpAnyH_take (i := 24) (v := .bool true) rfl (by kernel_rfl) (by kernel_rfl) (by kernel_rfl) (fun _ _ _ h => (h : False).elim) (Or.inl ⟨by rfl, ?_⟩) (HBX1.out _ G20.out) ?_
                  · intro w hSw
                    obtain ⟨⟨hs0, hs1, hs2⟩, hs3, hs4, hs5⟩ := hSw
                    go_simp
                  try simp only [Act.put, List.getElem_toArray, List.getElem_cons_zero, List.getElem_cons_succ, List.setIfInBounds_toArray, List.set_cons_zero, List.set_cons_succ]
                  refine wpAnyH_take (i := 25) (v := undef) rfl (by kernel_rfl) (by kernel_rfl) (by kernel_rfl) (fun _ _ _ h => (h : False).elim) (Or.inr ⟨by rfl, rfl⟩) (HBX1.out _ G20.out) ?_
                  try simp only [Act.put, List.getElem_toArray, List.getElem_cons_zero, List.getElem_cons_succ, List.setIfInBounds_toArray, List.set_cons_zero, List.set_cons_succ]
                  refine wpAnyH_take (i := 26) (v := undef) rfl (by kernel_rfl) (by kernel_rfl) (by kernel_rfl) (fun _ _ _ h => (h : False).elim) (Or.inr ⟨by rfl, rfl⟩) (HBX1.out _ G20.out) ?_
                  try simp only [Act.put, List.getElem_toArray, List.getElem_cons_zero, List.getElem_cons_succ, List.setIfInBounds_toArray, List.set_cons_zero, List.set_cons_succ]
                  refine wpAnyH_take (i := 27) (v := undef) rfl (by kernel_rfl) (by kernel_rfl) (by kernel_rfl) (fun _ _ _ h => (h : False).elim) (Or.inr ⟨by rfl, rfl⟩) (HBX1.out _ G20.out) ?_
                  try simp only [Act.put, List.getElem_toArray, List.getElem_cons_zero, List.getElem_cons_succ, List.setIfInBounds_toArray, List.set_cons_zero, List.set_cons_succ]
                  refine wpAnyH_take (i := 28) (v := .bool true) rfl (by kernel_rfl) (by kernel_rfl) (by kernel_rfl) (fun _ _ _ h => (h : False).elim) (Or.inl ⟨by rfl, ?_⟩) (HBX1.out _ G20.out) ?_
                  · intro w hSw
                    obtain ⟨⟨hs0, hs1, hs2⟩, hs3, hs4, hs5⟩ := hSw
                    go_simp
                  try simp only [Act.put, List.getElem_toArray, List.getElem_cons_zero, List.getElem_cons_succ, List.setIfInBounds_toArray, List.set_cons_zero, List.set_cons_succ]
                  refine wpAnyH_take (i := 29) (v := .bool false) rfl (by kernel_rfl) (by kernel_rfl) (by kernel_rfl) (fun _ _ _ h => (h : False).elim) (Or.inl ⟨by rfl, ?_⟩) (HBX1.out _ G20.out) ?_
                  · intro w hSw
                    obtain ⟨⟨hs0, hs1, hs2⟩, hs3, hs4, hs5⟩ := hSw
                    go_simp
                  try simp only [Act.put, List.getElem_toArray, List.getElem_cons_zero, List.getElem_cons_succ, List.setIfInBounds_toArray, List.set_cons_zero, List.set_cons_succ]
                  refine wpAnyH_take (i := 30) (v := .bool false) rfl (by kernel_rfl) (by kernel_rfl) (by kernel_rfl) (fun _ _ _ h => (h : False).elim) (Or.inl ⟨by rfl, ?_⟩) (HBX1.out _ G20.out) ?_
                  · intro w hSw
                    obtain ⟨⟨hs0, hs1, hs2⟩, hs3, hs4, hs5⟩ := hSw
                    go_simp
                  try simp only [Act.put, List.getElem_toArray, List.getElem_cons_zero, List.getElem_cons_succ, List.setIfInBounds_toArray, List.set_cons_zero, List.set_cons_succ]
                  refine ⟨by kernel_rfl, ?_⟩
                  refine NoPanic.normal ?_
                  go_wp2_with fail
                  go_meet
                  exact ⟨rfl, G20.out⟩
                | false =>
                  have HTALT := Lib.hid (show takesB (ofX 3 [a, b]) word = tb from HTALT0.out)
                  refine wp_region_noPanic ?_
                  refine wp_region_held_drew (S := fun W => ((W.cell? ⟨w.heap.size, 0, none⟩ = some (.int .i64 ka) ∧ W.cell? ⟨w.heap.size, 1, none⟩ = some (.string la) ∧ W.cell? ⟨w.heap.size, 2, none⟩ = some kva) ∧ W.cell? ⟨w.heap.size + 1, 0, none⟩ = some (.int .i64 kb) ∧ W.cell? ⟨w.heap.size + 1, 1, none⟩ = some (.string lb) ∧ W.cell? ⟨w.heap.size + 1, 2, none⟩ = some kvb)) (by kernel_rfl) (HBX1.out _ G0.out) (fun hHeld => ?_)
                  clear hHeld
                  refine wpAnyH_take (i := 0) (v := .agg #[.int .i64 ka, .string la, kva]) rfl (by kernel_rfl) (by kernel_rfl) (by kernel_rfl) (fun _ _ _ h => (h : False).elim) (Or.inl ⟨by rfl, ?_⟩) (HBX1.out _ G0.out) ?_
                  · intro w hSw
                    obtain ⟨⟨hs0, hs1, hs2⟩, hs3, hs4, hs5⟩ := hSw
                    go_simp
                  try simp only [Act.put, List.getElem_toArray, List.getElem_cons_zero, List.getElem_cons_succ, List.setIfInBounds_toArray, List.set_cons_zero, List.set_cons_succ]
                  refine wpAnyH_take (i := 1) (v := .agg #[.int .i64 kb, .string lb, kvb]) rfl (by kernel_rfl) (by kernel_rfl) (by kernel_rfl) (fun _ _ _ h => (h : False).elim) (Or.inl ⟨by rfl, ?_⟩) (HBX1.out _ G0.out) ?_
                  · intro w hSw
                    obtain ⟨⟨hs0, hs1, hs2⟩, hs3, hs4, hs5⟩ := hSw
                    go_simp
                  try simp only [Act.put, List.getElem_toArray, List.getElem_cons_zero, List.getElem_cons_succ, List.setIfInBounds_toArray, List.set_cons_zero, List.set_cons_succ]
                  refine wpAnyH_take (i := 4) (v := .slice A2 0 c2) rfl (by kernel_rfl) (by kernel_rfl) (by kernel_rfl) (fun _ _ _ h => (h : False).elim) (Or.inl ⟨by rfl, ?_⟩) (HBX1.out _ G0.out) ?_
                  · intro w hSw
                    obtain ⟨⟨hs0, hs1, hs2⟩, hs3, hs4, hs5⟩ := hSw
                    go_simp
                  try simp only [Act.put, List.getElem_toArray, List.getElem_cons_zero, List.getElem_cons_succ, List.setIfInBounds_toArray, List.set_cons_zero, List.set_cons_succ]
                  refine wpAnyH_take (i := 6) (v := .agg #[.int .i64 ka, .string la, kva]) rfl (by kernel_rfl) (by kernel_rfl) (by kernel_rfl) (fun _ _ _ h => (h : False).elim) (Or.inl ⟨by rfl, ?_⟩) (HBX1.out _ G0.out) ?_
                  · intro w hSw
                    obtain ⟨⟨hs0, hs1, hs2⟩, hs3, hs4, hs5⟩ := hSw
                    go_simp
                  try simp only [Act.put, List.getElem_toArray, List.getElem_cons_zero, List.getElem_cons_succ, List.setIfInBounds_toArray, List.set_cons_zero, List.set_cons_succ]
                  refine wpAnyH_take (i := 7) (v := .slice A2 0 c2) rfl (by kernel_rfl) (by kernel_rfl) (by kernel_rfl) (fun _ _ _ h => (h : False).elim) (Or.inl ⟨by rfl, ?_⟩) (HBX1.out _ G0.out) ?_
                  · intro w hSw
                    obtain ⟨⟨hs0, hs1, hs2⟩, hs3, hs4, hs5⟩ := hSw
                    go_simp
                  try simp only [Act.put, List.getElem_toArray, List.getElem_cons_zero, List.getElem_cons_succ, List.setIfInBounds_toArray, List.set_cons_zero, List.set_cons_succ]
                  refine wpAnyH_ready (rs := [2]) (by kernel_rfl) (by simp) ?_
                  refine AllReadyH.cons rfl (fun K hK => ?_) AllReadyH.nil
                  go_simp
                  have G2 := Lib.hid (G0.out.alloc G0.out.size (.cells #[.int .i64 ka, .string la, kva, .int .i64 kb, .string lb, kvb] 25))
                  refine hK.out _ _ (HBX1.out _ G2.out) (fun _ => ?_)
                  clear hK
                  try simp only [Act.put, List.getElem_toArray, List.getElem_cons_zero, List.getElem_cons_succ, List.setIfInBounds_toArray, List.set_cons_zero, List.set_cons_succ]
                  refine wpAnyH_ready (rs := [3]) (by kernel_rfl) (by simp) ?_
                  refine AllReadyH.cons rfl (fun K hK => ?_) AllReadyH.nil
                  go_simp
                  refine (of_any _ _ _ _ _).mono ?_
                  rintro e u3 ⟨rfl, hq⟩
                  have G3 := Lib.hid (G2.out.trans (hq.below.mono G2.out.size))
                  have X3 := Lib.hid (XV.of2 (k := 3) HXA1.out HXB1.out G0.out G0.out.size (lit_below hq))
                  clear hq
                  refine hK.out _ _ (HBX1.out _ G3.out) (fun _ => ?_)
                  clear hK
                  try simp only [Act.put, List.getElem_toArray, List.getElem_cons_zero, List.getElem_cons_succ, List.setIfInBounds_toArray, List.set_cons_zero, List.set_cons_succ]
                  refine wpAnyH_ready (rs := [5]) (by kernel_rfl) (by simp) ?_
                  refine AllReadyH.cons rfl (fun K hK => ?_) AllReadyH.nil
                  go_simp
                  refine (HTX.out _ _ _ _ X3.out G3.out (by rw [ofX_sz, szL_two]; omega) HLAB.out HTALT.out).mono ?_
                  rintro e u5 ⟨rfl, hq⟩
                  have G5 := Lib.hid hq
                  clear hq
                  refine hK.out _ _ (HBX1.out _ G5.out) (fun _ => ?_)
                  clear hK
                  try simp only [Act.put, List.getElem_toArray, List.getElem_cons_zero, List.getElem_cons_succ, List.setIfInBounds_toArray, List.set_cons_zero, List.set_cons_succ]
                  refine wpAnyH_ready (rs := [8]) (by kernel_rfl) (by simp) ?_
                  refine AllReadyH.cons rfl (fun K hK => ?_) AllReadyH.nil
                  go_simp
                  refine (HTX.out _ _ _ _ ((HXA1.out.bel G5.out).mono G5.out.size) G5.out (by omega) HLA.out.1 HTA.out).mono ?_
                  rintro e u8 ⟨rfl, hq⟩
                  have G8 := Lib.hid hq
                  clear hq
                  refine hK.out _ _ (HBX1.out _ G8.out) (fun _ => ?_)
                  clear hK
                  try simp only [Act.put, List.getElem_toArray, List.getElem_cons_zero, List.getElem_cons_succ, List.setIfInBounds_toArray, List.set_cons_zero, List.set_cons_succ]
                  refine wpAnyH_take (i := 9) (v := .bool false) rfl (by kernel_rfl) (by kernel_rfl) (by kernel_rfl) (fun _ _ _ h => (h : False).elim) (Or.inl ⟨by rfl, ?_⟩) (HBX1.out _ G8.out) ?_
                  · intro w hSw
                    obtain ⟨⟨hs0, hs1, hs2⟩, hs3, hs4, hs5⟩ := hSw
                    go_simp
                  try simp only [Act.put, List.getElem_toArray, List.getElem_cons_zero, List.getElem_cons_succ, List.setIfInBounds_toArray, List.set_cons_zero, List.set_cons_succ]
                  refine wpAnyH_take (i := 10) (v := .agg #[.int .i64 kb, .string lb, kvb]) rfl (by kernel_rfl) (by kernel_rfl) (by kernel_rfl) (fun _ _ _ h => (h : False).elim) (Or.inl ⟨by rfl, ?_⟩) (HBX1.out _ G8.out) ?_
                  · intro w hSw
                    obtain ⟨⟨hs0, hs1, hs2⟩, hs3, hs4, hs5⟩ := hSw
                    go_simp
                  try simp only [Act.put, List.getElem_toArray, List.getElem_cons_zero, List.getElem_cons_succ, List.setIfInBounds_toArray, List.set_cons_zero, List.set_cons_succ]
                  refine wpAnyH_take (i := 11) (v := .slice A2 0 c2) rfl (by kernel_rfl) (by kernel_rfl) (by kernel_rfl) (fun _ _ _ h => (h : False).elim) (Or.inl ⟨by rfl, ?_⟩) (HBX1.out _ G8.out) ?_
                  · intro w hSw
                    obtain ⟨⟨hs0, hs1, hs2⟩, hs3, hs4, hs5⟩ := hSw
                    go_simp
                  try simp only [Act.put, List.getElem_toArray, List.getElem_cons_zero, List.getElem_cons_succ, List.setIfInBounds_toArray, List.set_cons_zero, List.set_cons_succ]
                  refine wpAnyH_ready (rs := [12]) (by kernel_rfl) (by simp) ?_
                  refine AllReadyH.cons rfl (fun K hK => ?_) AllReadyH.nil
                  go_simp
                  refine (HTX.out _ _ _ _ ((HXB1.out.bel G8.out).mono G8.out.size) G8.out (by omega) HLA.out.2 HTB.out).mono ?_
                  rintro e u12 ⟨rfl, hq⟩
                  have G12 := Lib.hid hq
                  clear hq
                  refine hK.out _ _ (HBX1.out _ G12.out) (fun _ => ?_)
                  clear hK
                  try simp only [Act.put, List.getElem_toArray, List.getElem_cons_zero, List.getElem_cons_succ, List.setIfInBounds_toArray, List.set_cons_zero, List.set_cons_succ]
                  refine wpAnyH_take (i := 13) (v := .bool tb) rfl (by kernel_rfl) (by kernel_rfl) (by kernel_rfl) (fun _ _ _ h => (h : False).elim) (Or.inl ⟨by rfl, ?_⟩) (HBX1.out _ G12.out) ?_
                  · intro w hSw
                    obtain ⟨⟨hs0, hs1, hs2⟩, hs3, hs4, hs5⟩ := hSw
                    go_simp
                  try simp only [Act.put, List.getElem_toArray, List.getElem_cons_zero, List.getElem_cons_succ, List.setIfInBounds_toArray, List.set_cons_zero, List.set_cons_succ]
                  refine wpAnyH_take (i := 14) (v := .bool false) rfl (by kernel_rfl) (by kernel_rfl) (by kernel_rfl) (fun _ _ _ h => (h : False).elim) (Or.inl ⟨by rfl, ?_⟩) (HBX1.out _ G12.out) ?_
                  · intro w hSw
                    obtain ⟨⟨hs0, hs1, hs2⟩, hs3, hs4, hs5⟩ := hSw
                    go_simp
                  try simp only [Act.put, List.getElem_toArray, List.getElem_cons_zero, List.getElem_cons_succ, List.setIfInBounds_toArray, List.set_cons_zero, List.set_cons_succ]
                  refine wpAnyH_take (i := 15) (v := .bool false) rfl (by kernel_rfl) (by kernel_rfl) (by kernel_rfl) (fun _ _ _ h => (h : False).elim) (Or.inl ⟨by rfl, ?_⟩) (HBX1.out _ G12.out) ?_
                  · intro w hSw
                    obtain ⟨⟨hs0, hs1, hs2⟩, hs3, hs4, hs5⟩ := hSw
                    go_simp
                  try simp only [Act.put, List.getElem_toArray, List.getElem_cons_zero, List.getElem_cons_succ, List.setIfInBounds_toArray, List.set_cons_zero, List.set_cons_succ]
                  refine wpAnyH_take (i := 16) (v := .agg #[.int .i64 ka, .string la, kva]) rfl (by kernel_rfl) (by kernel_rfl) (by kernel_rfl) (fun _ _ _ h => (h : False).elim) (Or.inl ⟨by rfl, ?_⟩) (HBX1.out _ G12.out) ?_
                  · intro w hSw
                    obtain ⟨⟨hs0, hs1, hs2⟩, hs3, hs4, hs5⟩ := hSw
                    go_simp
                  try simp only [Act.put, List.getElem_toArray, List.getElem_cons_zero, List.getElem_cons_succ, List.setIfInBounds_toArray, List.set_cons_zero, List.set_cons_succ]
                  refine wpAnyH_take (i := 19) (v := .slice A2 0 c2) rfl (by kernel_rfl) (by kernel_rfl) (by kernel_rfl) (fun _ _ _ h => (h : False).elim) (Or.inl ⟨by rfl, ?_⟩) (HBX1.out _ G12.out) ?_
                  · intro w hSw
                    obtain ⟨⟨hs0, hs1, hs2⟩, hs3, hs4, hs5⟩ := hSw
                    go_simp
                  try simp only [Act.put, List.getElem_toArray, List.getElem_cons_zero, List.getElem_cons_succ, List.setIfInBounds_toArray, List.set_cons_zero, List.set_cons_succ]
                  refine wpAnyH_take (i := 21) (v := .slice A2 0 c2) rfl (by kernel_rfl) (by kernel_rfl) (by kernel_rfl) (fun _ _ _ h => (h : False).elim) (Or.inl ⟨by rfl, ?_⟩) (HBX1.out _ G12.out) ?_
                  · intro w hSw
                    obtain ⟨⟨hs0, hs1, hs2⟩, hs3, hs4, hs5⟩ := hSw
                    go_simp
                  try simp only [Act.put, List.getElem_toArray, List.getElem_cons_zero, List.getElem_cons_succ, List.setIfInBounds_toArray, List.set_cons_zero, List.set_cons_succ]
                  refine wpAnyH_take (i := 22) (v := .int .i64 0) rfl (by kernel_rfl) (by kernel_rfl) (by kernel_rfl) (fun _ _ _ h => (h : False).elim) (Or.inl ⟨by rfl, ?_⟩) (HBX1.out _ G12.out) ?_
                  · intro w hSw
                    obtain ⟨⟨hs0, hs1, hs2⟩, hs3, hs4, hs5⟩ := hSw
                    go_simp
                  try simp only [Act.put, List.getElem_toArray, List.getElem_cons_zero, List.getElem_cons_succ, List.setIfInBounds_toArray, List.set_cons_zero, List.set_cons_succ]
                  refine wpAnyH_take (i := 23) (v := .bool true) rfl (by kernel_rfl) (by kernel_rfl) (by kernel_rfl) (fun _ _ _ h => (h : False).elim) (Or.inl ⟨by rfl, ?_⟩) (HBX1.out _ G12.out) ?_
                  · intro w hSw
                    obtain ⟨⟨hs0, hs1, hs2⟩, hs3, hs4, hs5⟩ := hSw
                    (go_simp; try omega)
                  try simp only [Act.put, List.getElem_toArray, List.getElem_cons_zero, List.getElem_cons_succ, List.setIfInBounds_toArray, List.set_cons_zero, List.set_cons_succ]
                  refine wpAnyH_ready (rs := [17]) (by kernel_rfl) (by simp) ?_
                  refine AllReadyH.cons rfl (fun K hK => ?_) AllReadyH.nil
                  go_simp
                  have G17 := Lib.hid (G12.out.alloc G12.out.size (.cells #[.int .i64 ka, .string la, kva] 25))
                  refine hK.out _ _ (HBX1.out _ G17.out) (fun _ => ?_)
                  clear hK
                  try simp only [Act.put, List.getElem_toArray, List.getElem_cons_zero, List.getElem_cons_succ, List.setIfInBounds_toArray, List.set_cons_zero, List.set_cons_succ]
                  refine wpAnyH_ready (rs := [18]) (by kernel_rfl) (by simp) ?_
                  refine AllReadyH.cons rfl (fun K hK => ?_) AllReadyH.nil
                  go_simp
                  refine (of_any _ _ _ _ _).mono ?_
                  rintro e u18 ⟨rfl, hq⟩
                  have G18 := Lib.hid (G17.out.trans (hq.below.mono G17.out.size))
                  have X18 := Lib.hid (XV.of1 (k := 6) HXA1.out G12.out G12.out.size (lit_below hq))
                  clear hq
                  refine hK.out _ _ (HBX1.out _ G18.out) (fun _ => ?_)
                  clear hK
                  try simp only [Act.put, List.getElem_toArray, List.getElem_cons_zero, List.getElem_cons_succ, List.setIfInBounds_toArray, List.set_cons_zero, List.set_cons_succ]
                  refine wpAnyH_ready (rs := [20]) (by kernel_rfl) (by simp) ?_
                  refine AllReadyH.cons rfl (fun K hK => ?_) AllReadyH.nil
                  go_simp
                  refine (HTX.out _ _ _ _ X18.out G18.out (by rw [ofX_sz, szL_one]; omega) (HLAO.out _) HTOPT.out).mono ?_
                  rintro e u20 ⟨rfl, hq⟩
                  have G20 := Lib.hid hq
                  clear hq
                  refine hK.out _ _ (HBX1.out _ G20.out) (fun _ => ?_)
                  clear hK
                  try simp only [Act.put, List.getElem_toArray, List.getElem_cons_zero, List.getElem_cons_succ, List.setIfInBounds_toArray, List.set_cons_zero, List.set_cons_succ]
                  refine wpAnyH_take (i := 24) (v := .bool true) rfl (by kernel_rfl) (by kernel_rfl) (by kernel_rfl) (fun _ _ _ h => (h : False).elim) (Or.inl ⟨by rfl, ?_⟩) (HBX1.out _ G20.out) ?_
                  · intro w hSw
                    obtain ⟨⟨hs0, hs1, hs2⟩, hs3, hs4, hs5⟩ := hSw
                    go_simp
                  try simp only [Act.put, List.getElem_toArray, List.getElem_cons_zero, List.getElem_cons_succ, List.setIfInBounds_toArray, List.set_cons_zero, List.set_cons_succ]
                  refine wpAnyH_take (i := 25) (v := undef) rfl (by kernel_rfl) (by kernel_rfl) (by kernel_rfl) (fun _ _ _ h => (h : False).elim) (Or.inr ⟨by rfl, rfl⟩) (HBX1.out _ G20.out) ?_
                  try simp only [Act.put, List.getElem_toArray, List.getElem_cons_zero, List.getElem_cons_succ, List.setIfInBounds_toArray, List.set_cons_zero, List.set_cons_succ]
                  refine wpAnyH_take (i := 26) (v := undef) rfl (by kernel_rfl) (by kernel_rfl) (by kernel_rfl) (fun _ _ _ h => (h : False).elim) (Or.inr ⟨by rfl, rfl⟩) (HBX1.out _ G20.out) ?_
                  try simp only [Act.put, List.getElem_toArray, List.getElem_cons_zero, List.getElem_cons_succ, List.setIfInBounds_toArray, List.set_cons_zero, List.set_cons_succ]
                  refine wpAnyH_take (i := 27) (v := undef) rfl (by kernel_rfl) (by kernel_rfl) (by kernel_rfl) (fun _ _ _ h => (h : False).elim) (Or.inr ⟨by rfl, rfl⟩) (HBX1.out _ G20.out) ?_
                  try simp only [Act.put, List.getElem_toArray, List.getElem_cons_zero, List.getElem_cons_succ, List.setIfInBounds_toArray, List.set_cons_zero, List.set_cons_succ]
                  refine wpAnyH_take (i := 28) (v := .bool true) rfl (by kernel_rfl) (by kernel_rfl) (by kernel_rfl) (fun _ _ _ h => (h : False).elim) (Or.inl ⟨by rfl, ?_⟩) (HBX1.out _ G20.out) ?_
                  · intro w hSw
                    obtain ⟨⟨hs0, hs1, hs2⟩, hs3, hs4, hs5⟩ := hSw
                    go_simp
                  try simp only [Act.put, List.getElem_toArray, List.getElem_cons_zero, List.getElem_cons_succ, List.setIfInBounds_toArray, List.set_cons_zero, List.set_cons_succ]
                  refine wpAnyH_take (i := 29) (v := .bool false) rfl (by kernel_rfl) (by kernel_rfl) (by kernel_rfl) (fun _ _ _ h => (h : False).elim) (Or.inl ⟨by rfl, ?_⟩) (HBX1.out _ G20.out) ?_
                  · intro w hSw
                    obtain ⟨⟨hs0, hs1, hs2⟩, hs3, hs4, hs5⟩ := hSw
                    go_simp
                  try simp only [Act.put, List.getElem_toArray, List.getElem_cons_zero, List.getElem_cons_succ, List.setIfInBounds_toArray, List.set_cons_zero, List.set_cons_succ]
                  refine wpAnyH_take (i := 30) (v := .bool false) rfl (by kernel_rfl) (by kernel_rfl) (by kernel_rfl) (fun _ _ _ h => (h : False).elim) (Or.inl ⟨by rfl, ?_⟩) (HBX1.out _ G20.out) ?_
                  · intro w hSw
                    obtain ⟨⟨hs0, hs1, hs2⟩, hs3, hs4, hs5⟩ := hSw
                    go_simp
                  try simp only [Act.put, List.getElem_toArray, List.getElem_cons_zero, List.getElem_cons_succ, List.setIfInBounds_toArray, List.set_cons_zero, List.set_cons_succ]
                  refine ⟨by kernel_rfl, ?_⟩
                  refine NoPanic.normal ?_
                  go_wp2_with fail
                  go_meet
                  exact ⟨rfl, G20.out⟩
              · have hni : (n : Int) ≠ 0 := by omega
                have HTOPT := Lib.hid (show takesB (ofX 6 [a]) word = ta by rw [HTOPT0.out, HN.out, decide_eq_false (by omega)]; rfl)
                cases ta with
                | true =>
                  have HTALT := Lib.hid (show takesB (ofX 3 [a, b]) word = true from HTALT0.out)
                  refine wp_region_noPanic ?_
                  refine wp_region_held_drew (S := fun W => ((W.cell? ⟨w.heap.size, 0, none⟩ = some (.int .i64 ka) ∧ W.cell? ⟨w.heap.size, 1, none⟩ = some (.string la) ∧ W.cell? ⟨w.heap.size, 2, none⟩ = some kva) ∧ W.cell? ⟨w.heap.size + 1, 0, none⟩ = some (.int .i64 kb) ∧ W.cell? ⟨w.heap.size + 1, 1, none⟩ = some (.string lb) ∧ W.cell? ⟨w.heap.size + 1, 2, none⟩ = some kvb)) (by kernel_rfl) (HBX1.out _ G0.out) (fun hHeld => ?_)
                  clear hHeld
                  refine wpAnyH_take (i := 0) (v := .agg #[.int .i64 ka, .string la, kva]) rfl (by kernel_rfl) (by kernel_rfl) (by kernel_rfl) (fun _ _ _ h => (h : False).elim) (Or.inl ⟨by rfl, ?_⟩) (HBX1.out _ G0.out) ?_
                  · intro w hSw
                    obtain ⟨⟨hs0, hs1, hs2⟩, hs3, hs4, hs5⟩ := hSw
                    go_simp
                  try simp only [Act.put, List.getElem_toArray, List.getElem_cons_zero, List.getElem_cons_succ, List.setIfInBounds_toArray, List.set_cons_zero, List.set_cons_succ]
                  refine wpAnyH_take (i := 1) (v := .agg #[.int .i64 kb, .string lb, kvb]) rfl (by kernel_rfl) (by kernel_rfl) (by kernel_rfl) (fun _ _ _ h => (h : False).elim) (Or.inl ⟨by rfl, ?_⟩) (HBX1.out _ G0.out) ?_
                  · intro w hSw
                    obtain ⟨⟨hs0, hs1, hs2⟩, hs3, hs4, hs5⟩ := hSw
                    go_simp
                  try simp only [Act.put, List.getElem_toArray, List.getElem_cons_zero, List.getElem_cons_succ, List.setIfInBounds_toArray, List.set_cons_zero, List.set_cons_succ]
                  refine wpAnyH_take (i := 4) (v := .slice A2 n c2) rfl (by kernel_rfl) (by kernel_rfl) (by kernel_rfl) (fun _ _ _ h => (h : False).elim) (Or.inl ⟨by rfl, ?_⟩) (HBX1.out _ G0.out) ?_
                  · intro w hSw
                    obtain ⟨⟨hs0, hs1, hs2⟩, hs3, hs4, hs5⟩ := hSw
                    go_simp
                  try simp only [Act.put, List.getElem_toArray, List.getElem_cons_zero, List.getElem_cons_succ, List.setIfInBounds_toArray, List.set_cons_zero, List.set_cons_succ]
                  refine wpAnyH_take (i := 6) (v := .agg #[.int .i64 ka, .string la, kva]) rfl (by kernel_rfl) (by kernel_rfl) (by kernel_rfl) (fun _ _ _ h => (h : False).elim) (Or.inl ⟨by rfl, ?_⟩) (HBX1.out _ G0.out) ?_
                  · intro w hSw
                    obtain ⟨⟨hs0, hs1, hs2⟩, hs3, hs4, hs5⟩ := hSw
                    go_simp
                  try simp only [Act.put, List.getElem_toArray, List.getElem_cons_zero, List.getElem_cons_succ, List.setIfInBounds_toArray, List.set_cons_zero, List.set_cons_succ]
                  refine wpAnyH_take (i := 7) (v := .slice A2 n c2) rfl (by kernel_rfl) (by kernel_rfl) (by kernel_rfl) (fun _ _ _ h => (h : False).elim) (Or.inl ⟨by rfl, ?_⟩) (HBX1.out _ G0.out) ?_
                  · intro w hSw
                    obtain ⟨⟨hs0, hs1, hs2⟩, hs3, hs4, hs5⟩ := hSw
                    go_simp
                  try simp only [Act.put, List.getElem_toArray, List.getElem_cons_zero, List.getElem_cons_succ, List.setIfInBounds_toArray, List.set_cons_zero, List.set_cons_succ]
                  refine wpAnyH_ready (rs := [2]) (by kernel_rfl) (by simp) ?_
                  refine AllReadyH.cons rfl (fun K hK => ?_) AllReadyH.nil
                  go_simp
                  have G2 := Lib.hid (G0.out.alloc G0.out.size (.cells #[.int .i64 ka, .string la, kva, .int .i64 kb, .string lb, kvb] 25))
                  refine hK.out _ _ (HBX1.out _ G2.out) (fun _ => ?_)
                  clear hK
                  try simp only [Act.put, List.getElem_toArray, List.getElem_cons_zero, List.getElem_cons_succ, List.setIfInBounds_toArray, List.set_cons_zero, List.set_cons_succ]
                  refine wpAnyH_ready (rs := [3]) (by kernel_rfl) (by simp) ?_
                  refine AllReadyH.cons rfl (fun K hK => ?_) AllReadyH.nil
                  go_simp
                  refine (of_any _ _ _ _ _).mono ?_
                  rintro e u3 ⟨rfl, hq⟩
                  have G3 := Lib.hid (G2.out.trans (hq.below.mono G2.out.size))
                  have X3 := Lib.hid (XV.of2 (k := 3) HXA1.out HXB1.out G0.out G0.out.size (lit_below hq))
                  clear hq
                  refine hK.out _ _ (HBX1.out _ G3.out) (fun _ => ?_)
                  clear hK
                  try simp only [Act.put, List.getElem_toArray, List.getElem_cons_zero, List.getElem_cons_succ, List.setIfInBounds_toArray, List.set_cons_zero, List.set_cons_succ]
                  refine wpAnyH_ready (rs := [5]) (by kernel_rfl) (by simp) ?_
                  refine AllReadyH.cons rfl (fun K hK => ?_) AllReadyH.nil
                  go_simp
                  refine (HTX.out _ _ _ _ X3.out G3.out (by rw [ofX_sz, szL_two]; omega) HLAB.out HTALT.out).mono ?_
                  rintro e u5 ⟨rfl, hq⟩
                  have G5 := Lib.hid hq
                  clear hq
                  refine hK.out _ _ (HBX1.out _ G5.out) (fun _ => ?_)
                  clear hK
                  try simp only [Act.put, List.getElem_toArray, List.getElem_cons_zero, List.getElem_cons_succ, List.setIfInBounds_toArray, List.set_cons_zero, List.set_cons_succ]
                  refine wpAnyH_ready (rs := [8]) (by kernel_rfl) (by simp) ?_
                  refine AllReadyH.cons rfl (fun K hK => ?_) AllReadyH.nil
                  go_simp
                  refine (HTX.out _ _ _ _ ((HXA1.out.bel G5.out).mono G5.out.size) G5.out (by omega) HLA.out.1 HTA.out).mono ?_
                  rintro e u8 ⟨rfl, hq⟩
                  have G8 := Lib.hid hq
                  clear hq
                  refine hK.out _ _ (HBX1.out _ G8.out) (fun _ => ?_)
                  clear hK
                  try simp only [Act.put, List.getElem_toArray, List.getElem_cons_zero, List.getElem_cons_succ, List.setIfInBounds_toArray, List.set_cons_zero, List.set_cons_succ]
                  refine wpAnyH_take (i := 9) (v := .bool true) rfl (by kernel_rfl) (by kernel_rfl) (by kernel_rfl) (fun _ _ _ h => (h : False).elim) (Or.inl ⟨by rfl, ?_⟩) (HBX1.out _ G8.out) ?_
                  · intro w hSw
                    obtain ⟨⟨hs0, hs1, hs2⟩, hs3, hs4, hs5⟩ := hSw
                    go_simp
                  try simp only [Act.put, List.getElem_toArray, List.getElem_cons_zero, List.getElem_cons_succ, List.setIfInBounds_toArray, List.set_cons_zero, List.set_cons_succ]
                  refine wpAnyH_take (i := 10) (v := undef) rfl (by kernel_rfl) (by kernel_rfl) (by kernel_rfl) (fun _ _ _ h => (h : False).elim) (Or.inr ⟨by rfl, rfl⟩) (HBX1.out _ G8.out) ?_
                  try simp only [Act.put, List.getElem_toArray, List.getElem_cons_zero, List.getElem_cons_succ, List.setIfInBounds_toArray, List.set_cons_zero, List.set_cons_succ]
                  refine wpAnyH_take (i := 11) (v := undef) rfl (by kernel_rfl) (by kernel_rfl) (by kernel_rfl) (fun _ _ _ h => (h : False).elim) (Or.inr ⟨by rfl, rfl⟩) (HBX1.out _ G8.out) ?_
                  try simp only [Act.put, List.getElem_toArray, List.getElem_cons_zero, List.getElem_cons_succ, List.setIfInBounds_toArray, List.set_cons_zero, List.set_cons_succ]
                  refine wpAnyH_take (i := 12) (v := undef) rfl (by kernel_rfl) (by kernel_rfl) (by kernel_rfl) (fun _ _ _ h => (h : False).elim) (Or.inr ⟨by rfl, rfl⟩) (HBX1.out _ G8.out) ?_
                  try simp only [Act.put, List.getElem_toArray, List.getElem_cons_zero, List.getElem_cons_succ, List.setIfInBounds_toArray, List.set_cons_zero, List.set_cons_succ]
                  refine wpAnyH_take (i := 13) (v := .bool true) rfl (by kernel_rfl) (by kernel_rfl) (by kernel_rfl) (fun _ _ _ h => (h : False).elim) (Or.inl ⟨by rfl, ?_⟩) (HBX1.out _ G8.out) ?_
                  · intro w hSw
                    obtain ⟨⟨hs0, hs1, hs2⟩, hs3, hs4, hs5⟩ := hSw
                    go_simp
                  try simp only [Act.put, List.getElem_toArray, List.getElem_cons_zero, List.getElem_cons_succ, List.setIfInBounds_toArray, List.set_cons_zero, List.set_cons_succ]
                  refine wpAnyH_take (i := 14) (v := .bool false) rfl (by kernel_rfl) (by kernel_rfl) (by kernel_rfl) (fun _ _ _ h => (h : False).elim) (Or.inl ⟨by rfl, ?_⟩) (HBX1.out _ G8.out) ?_
                  · intro w hSw
                    obtain ⟨⟨hs0, hs1, hs2⟩, hs3, hs4, hs5⟩ := hSw
                    go_simp
                  try simp only [Act.put, List.getElem_toArray, List.getElem_cons_zero, List.getElem_cons_succ, List.setIfInBounds_toArray, List.set_cons_zero, List.set_cons_succ]
                  refine wpAnyH_take (i := 15) (v := .bool false) rfl (by kernel_rfl) (by kernel_rfl) (by kernel_rfl) (fun _ _ _ h => (h : False).elim) (Or.inl ⟨by rfl, ?_⟩) (HBX1.out _ G8.out) ?_
                  · intro w hSw
                    obtain ⟨⟨hs0, hs1, hs2⟩, hs3, hs4, hs5⟩ := hSw
                    go_simp
                  try simp only [Act.put, List.getElem_toArray, List.getElem_cons_zero, List.getElem_cons_succ, List.setIfInBounds_toArray, List.set_cons_zero, List.set_cons_succ]
                  refine wpAnyH_take (i := 16) (v := .agg #[.int .i64 ka, .string la, kva]) rfl (by kernel_rfl) (by kernel_rfl) (by kernel_rfl) (fun _ _ _ h => (h : False).elim) (Or.inl ⟨by rfl, ?_⟩) (HBX1.out _ G8.out) ?_
                  · intro w hSw
                    obtain ⟨⟨hs0, hs1, hs2⟩, hs3, hs4, hs5⟩ := hSw
                    go_simp
                  try simp only [Act.put, List.getElem_toArray, List.getElem_cons_zero, List.getElem_cons_succ, List.setIfInBounds_toArray, List.set_cons_zero, List.set_cons_succ]
                  refine wpAnyH_take (i := 19) (v := .slice A2 n c2) rfl (by kernel_rfl) (by kernel_rfl) (by kernel_rfl) (fun _ _ _ h => (h : False).elim) (Or.inl ⟨by rfl, ?_⟩) (HBX1.out _ G8.out) ?_
                  · intro w hSw
                    obtain ⟨⟨hs0, hs1, hs2⟩, hs3, hs4, hs5⟩ := hSw
                    go_simp
                  try simp only [Act.put, List.getElem_toArray, List.getElem_cons_zero, List.getElem_cons_succ, List.setIfInBounds_toArray, List.set_cons_zero, List.set_cons_succ]
                  refine wpAnyH_take (i := 21) (v := .slice A2 n c2) rfl (by kernel_rfl) (by kernel_rfl) (by kernel_rfl) (fun _ _ _ h => (h : False).elim) (Or.inl ⟨by rfl, ?_⟩) (HBX1.out _ G8.out) ?_
                  · intro w hSw
                    obtain ⟨⟨hs0, hs1, hs2⟩, hs3, hs4, hs5⟩ := hSw
                    go_simp
                  try simp only [Act.put, List.getElem_toArray, List.getElem_cons_zero, List.getElem_cons_succ, List.setIfInBounds_toArray, List.set_cons_zero, List.set_cons_succ]
                  refine wpAnyH_take (i := 22) (v := .int .i64 n) rfl (by kernel_rfl) (by kernel_rfl) (by kernel_rfl) (fun _ _ _ h => (h : False).elim) (Or.inl ⟨by rfl, ?_⟩) (HBX1.out _ G8.out) ?_
                  · intro w hSw
                    obtain ⟨⟨hs0, hs1, hs2⟩, hs3, hs4, hs5⟩ := hSw
                    go_simp
                  try simp only [Act.put, List.getElem_toArray, List.getElem_cons_zero, List.getElem_cons_succ, List.setIfInBounds_toArray, List.set_cons_zero, List.set_cons_succ]
                  refine wpAnyH_take (i := 23) (v := .bool false) rfl (by kernel_rfl) (by kernel_rfl) (by kernel_rfl) (fun _ _ _ h => (h : False).elim) (Or.inl ⟨by rfl, ?_⟩) (HBX1.out _ G8.out) ?_
                  · intro w hSw
                    obtain ⟨⟨hs0, hs1, hs2⟩, hs3, hs4, hs5⟩ := hSw
                    (go_simp; try omega)
                  try simp only [Act.put, List.getElem_toArray, List.getElem_cons_zero, List.getElem_cons_succ, List.setIfInBounds_toArray, List.set_cons_zero, List.set_cons_succ]
                  refine wpAnyH_ready (rs := [17]) (by kernel_rfl) (by simp) ?_
                  refine AllReadyH.cons rfl (fun K hK => ?_) AllReadyH.nil
                  go_simp
                  have G17 := Lib.hid (G8.out.alloc G8.out.size (.cells #[.int .i64 ka, .string la, kva] 25))
                  refine hK.out _ _ (HBX1.out _ G17.out) (fun _ => ?_)
                  clear hK
                  try simp only [Act.put, List.getElem_toArray, List.getElem_cons_zero, List.getElem_cons_succ, List.setIfInBounds_toArray, List.set_cons_zero, List.set_cons_succ]
                  refine wpAnyH_ready (rs := [18]) (by kernel_rfl) (by simp) ?_
                  refine AllReadyH.cons rfl (fun K hK => ?_) AllReadyH.nil
                  go_simp
                  refine (of_any _ _ _ _ _).mono ?_
                  rintro e u18 ⟨rfl, hq⟩
                  have G18 := Lib.hid (G17.out.trans (hq.below.mono G17.out.size))
                  have X18 := Lib.hid (XV.of1 (k := 6) HXA1.out G8.out G8.out.size (lit_below hq))
                  clear hq
                  refine hK.out _ _ (HBX1.out _ G18.out) (fun _ => ?_)
                  clear hK
                  try simp only [Act.put, List.getElem_toArray, List.getElem_cons_zero, List.getElem_cons_succ, List.setIfInBounds_toArray, List.set_cons_zero, List.set_cons_succ]
                  refine wpAnyH_ready (rs := [20]) (by kernel_rfl) (by simp) ?_
                  refine AllReadyH.cons rfl (fun K hK => ?_) AllReadyH.nil
                  go_simp
                  refine (HTX.out _ _ _ _ X18.out G18.out (by rw [ofX_sz, szL_one]; omega) (HLAO.out _) HTOPT.out).mono ?_
                  rintro e u20 ⟨rfl, hq⟩
                  have G20 := Lib.hid hq
                  clear hq
                  refine hK.out _ _ (HBX1.out _ G20.out) (fun _ => ?_)
                  clear hK
                  try simp only [Act.put, List.getElem_toArray, List.getElem_cons_zero, List.getElem_cons_succ, List.setIfInBounds_toArray, List.set_cons_zero, List.set_cons_succ]
                  refine wpAnyH_take (i := 24) (v := .bool false) rfl (by kernel_rfl) (by kernel_rfl) (by kernel_rfl) (fun _ _ _ h => (h : False).elim) (Or.inl ⟨by rfl, ?_⟩) (HBX1.out _ G20.out) ?_
                  · intro w hSw
                    obtain ⟨⟨hs0, hs1, hs2⟩, hs3, hs4, hs5⟩ := hSw
                    go_simp
                  try simp only [Act.put, List.getElem_toArray, List.getElem_cons_zero, List.getElem_cons_succ, List.setIfInBounds_toArray, List.set_cons_zero, List.set_cons_succ]
                  refine wpAnyH_take (i := 25) (v := .agg #[.int .i64 ka, .string la, kva]) rfl (by kernel_rfl) (by kernel_rfl) (by kernel_rfl) (fun _ _ _ h => (h : False).elim) (Or.inl ⟨by rfl, ?_⟩) (HBX1.out _ G20.out) ?_
                  · intro w hSw
                    obtain ⟨⟨hs0, hs1, hs2⟩, hs3, hs4, hs5⟩ := hSw
                    go_simp
                  try simp only [Act.put, List.getElem_toArray, List.getElem_cons_zero, List.getElem_cons_succ, List.setIfInBounds_toArray, List.set_cons_zero, List.set_cons_succ]
                  refine wpAnyH_take (i := 26) (v := .slice A2 n c2) rfl (by kernel_rfl) (by kernel_rfl) (by kernel_rfl) (fun _ _ _ h => (h : False).elim) (Or.inl ⟨by rfl, ?_⟩) (HBX1.out _ G20.out) ?_
                  · intro w hSw
                    obtain ⟨⟨hs0, hs1, hs2⟩, hs3, hs4, hs5⟩ := hSw
                    go_simp
                  try simp only [Act.put, List.getElem_toArray, List.getElem_cons_zero, List.getElem_cons_succ, List.setIfInBounds_toArray, List.set_cons_zero, List.set_cons_succ]
                  refine wpAnyH_ready (rs := [27]) (by kernel_rfl) (by simp) ?_
                  refine AllReadyH.cons rfl (fun K hK => ?_) AllReadyH.nil
                  go_simp
                  refine (HTX.out _ _ _ _ ((HXA1.out.bel G20.out).mono G20.out.size) G20.out (by omega) HLA.out.1 HTA.out).mono ?_
                  rintro e u27 ⟨rfl, hq⟩
                  have G27 := Lib.hid hq
                  clear hq
                  refine hK.out _ _ (HBX1.out _ G27.out) (fun _ => ?_)
                  clear hK
                  try simp only [Act.put, List.getElem_toArray, List.getElem_cons_zero, List.getElem_cons_succ, List.setIfInBounds_toArray, List.set_cons_zero, List.set_cons_succ]
                  refine wpAnyH_take (i := 28) (v := .bool true) rfl (by kernel_rfl) (by kernel_rfl) (by kernel_rfl) (fun _ _ _ h => (h : False).elim) (Or.inl ⟨by rfl, ?_⟩) (HBX1.out _ G27.out) ?_
                  · intro w hSw
                    obtain ⟨⟨hs0, hs1, hs2⟩, hs3, hs4, hs5⟩ := hSw
                    go_simp
                  try simp only [Act.put, List.getElem_toArray, List.getElem_cons_zero, List.getElem_cons_succ, List.setIfInBounds_toArray, List.set_cons_zero, List.set_cons_succ]
                  refine wpAnyH_take (i := 29) (v := .bool false) rfl (by kernel_rfl) (by kernel_rfl) (by kernel_rfl) (fun _ _ _ h => (h : False).elim) (Or.inl ⟨by rfl, ?_⟩) (HBX1.out _ G27.out) ?_
                  · intro w hSw
                    obtain ⟨⟨hs0, hs1, hs2⟩, hs3, hs4, hs5⟩ := hSw
                    go_simp
                  try simp only [Act.put, List.getElem_toArray, List.getElem_cons_zero, List.getElem_cons_succ, List.setIfInBounds_toArray, List.set_cons_zero, List.set_cons_succ]
                  refine wpAnyH_take (i := 30) (v := .bool false) rfl (by kernel_rfl) (by kernel_rfl) (by kernel_rfl) (fun _ _ _ h => (h : False).elim) (Or.inl ⟨by rfl, ?_⟩) (HBX1.out _ G27.out) ?_
                  · intro w hSw
                    obtain ⟨⟨hs0, hs1, hs2⟩, hs3, hs4, hs5⟩ := hSw
                    go_simp
                  try simp only [Act.put, List.getElem_toArray, List.getElem_cons_zero, List.getElem_cons_succ, List.setIfInBounds_toArray, List.set_cons_zero, List.set_cons_succ]
                  refine ⟨by kernel_rfl, ?_⟩
                  refine NoPanic.normal ?_
                  go_wp2_with fail
                  go_meet
                  exact ⟨rfl, G27.out⟩
                | false =>
                  have HTALT := Lib.hid (show takesB (ofX 3 [a, b]) word = tb from HTALT0.out)
                  refine wp_region_noPanic ?_
                  refine wp_region_held_drew (S := fun W => ((W.cell? ⟨w.heap.size, 0, none⟩ = some (.int .i64 ka) ∧ W.cell? ⟨w.heap.size, 1, none⟩ = some (.string la) ∧ W.cell? ⟨w.heap.size, 2, none⟩ = some kva) ∧ W.cell? ⟨w.heap.size + 1, 0, none⟩ = some (.int .i64 kb) ∧ W.cell? ⟨w.heap.size + 1, 1, none⟩ = some (.string lb) ∧ W.cell? ⟨w.heap.size + 1, 2, none⟩ = some kvb)) (by kernel_rfl) (HBX1.out _ G0.out) (fun hHeld => ?_)
                  clear hHeld
                  refine wpAnyH_take (i := 0) (v := .agg #[.int .i64 ka, .string la, kva]) rfl (by kernel_rfl) (by kernel_rfl) (by kernel_rfl) (fun _ _ _ h => (h : False).elim) (Or.inl ⟨by rfl, ?_⟩) (HBX1.out _ G0.out) ?_
                  · intro w hSw
                    obtain ⟨⟨hs0, hs1, hs2⟩, hs3, hs4, hs5⟩ := hSw
                    go_simp
                  try simp only [Act.put, List.getElem_toArray, List.getElem_cons_zero, List.getElem_cons_succ, List.setIfInBounds_toArray, List.set_cons_zero, List.set_cons_succ]
                  refine wpAnyH_take (i := 1) (v := .agg #[.int .i64 kb, .string lb, kvb]) rfl (by kernel_rfl) (by kernel_rfl) (by kernel_rfl) (fun _ _ _ h => (h : False).elim) (Or.inl ⟨by rfl, ?_⟩) (HBX1.out _ G0.out) ?_
                  · intro w hSw
                    obtain ⟨⟨hs0, hs1, hs2⟩, hs3, hs4, hs5⟩ := hSw
                    go_simp
                  try simp only [Act.put, List.getElem_toArray, List.getElem_cons_zero, List.getElem_cons_succ, List.setIfInBounds_toArray, List.set_cons_zero, List.set_cons_succ]
                  refine wpAnyH_take (i := 4) (v := .slice A2 n c2) rfl (by kernel_rfl) (by kernel_rfl) (by kernel_rfl) (fun _ _ _ h => (h : False).elim) (Or.inl ⟨by rfl, ?_⟩) (HBX1.out _ G0.out) ?_
                  · intro w hSw
                    obtain ⟨⟨hs0, hs1, hs2⟩, hs3, hs4, hs5⟩ := hSw
                    go_simp
                  try simp only [Act.put, List.getElem_toArray, List.getElem_cons_zero, List.getElem_cons_succ, List.setIfInBounds_toArray, List.set_cons_zero, List.set_cons_succ]
                  refine wpAnyH_take (i := 6) (v := .agg #[.int .i64 ka, .string la, kva]) rfl (by kernel_rfl) (by kernel_rfl) (by kernel_rfl) (fun _ _ _ h => (h : False).elim) (Or.inl ⟨by rfl, ?_⟩) (HBX1.out _ G0.out) ?_
                  · intro w hSw
                    obtain ⟨⟨hs0, hs1, hs2⟩, hs3, hs4, hs5⟩ := hSw
                    go_simp
                  try simp only [Act.put, List.getElem_toArray, List.getElem_cons_zero, List.getElem_cons_succ, List.setIfInBounds_toArray, List.set_cons_zero, List.set_cons_succ]
                  refine wpAnyH_take (i := 7) (v := .slice A2 n c2) rfl (by kernel_rfl) (by kernel_rfl) (by kernel_rfl) (fun _ _ _ h => (h : False).elim) (Or.inl ⟨by rfl, ?_⟩) (HBX1.out _ G0.out) ?_
                  · intro w hSw
                    obtain ⟨⟨hs0, hs1, hs2⟩, hs3, hs4, hs5⟩ := hSw
                    go_simp
                  try simp only [Act.put, List.getElem_toArray, List.getElem_cons_zero, List.getElem_cons_succ, List.setIfInBounds_toArray, List.set_cons_zero, List.set_cons_succ]
                  refine wpAnyH_ready (rs := [2]) (by kernel_rfl) (by simp) ?_
                  refine AllReadyH.cons rfl (fun K hK => ?_) AllReadyH.nil
                  go_simp
                  have G2 := Lib.hid (G0.out.alloc G0.out.size (.cells #[.int .i64 ka, .string la, kva, .int .i64 kb, .string lb, kvb] 25))
                  refine hK.out _ _ (HBX1.out _ G2.out) (fun _ => ?_)
                  clear hK
                  try simp only [Act.put, List.getElem_toArray, List.getElem_cons_zero, List.getElem_cons_succ, List.setIfInBounds_toArray, List.set_cons_zero, List.set_cons_succ]
                  refine wpAnyH_ready (rs := [3]) (by kernel_rfl) (by simp) ?_
                  refine AllReadyH.cons rfl (fun K hK => ?_) AllReadyH.nil
                  go_simp
                  refine (of_any _ _ _ _ _).mono ?_
                  rintro e u3 ⟨rfl, hq⟩
                  have G3 := Lib.hid (G2.out.trans (hq.below.mono G2.out.size))
                  have X3 := Lib.hid (XV.of2 (k := 3) HXA1.out HXB1.out G0.out G0.out.size (lit_below hq))
                  clear hq
                  refine hK.out _ _ (HBX1.out _ G3.out) (fun _ => ?_)
                  clear hK
                  try simp only [Act.put, List.getElem_toArray, List.getElem_cons_zero, List.getElem_cons_succ, List.setIfInBounds_toArray, List.set_cons_zero, List.set_cons_succ]
                  refine wpAnyH_ready (rs := [5]) (by kernel_rfl) (by simp) ?_
                  refine AllReadyH.cons rfl (fun K hK => ?_) AllReadyH.nil
                  go_simp
                  refine (HTX.out _ _ _ _ X3.out G3.out (by rw [ofX_sz, szL_two]; omega) HLAB.out HTALT.out).mono ?_
                  rintro e u5 ⟨rfl, hq⟩
                  have G5 := Lib.hid hq
                  clear hq
                  refine hK.out _ _ (HBX1.out _ G5.out) (fun _ => ?_)
                  clear hK
                  try simp only [Act.put, List.getElem_toArray, List.getElem_cons_zero, List.getElem_cons_succ, List.setIfInBounds_toArray, List.set_cons_zero, List.set_cons_succ]
                  refine wpAnyH_ready (rs := [8]) (by kernel_rfl) (by simp) ?_
                  refine AllReadyH.cons rfl (fun K hK => ?_) AllReadyH.nil
                  go_simp
                  refine (HTX.out _ _ _ _ ((HXA1.out.bel G5.out).mono G5.out.size) G5.out (by omega) HLA.out.1 HTA.out).mono ?_
                  rintro e u8 ⟨rfl, hq⟩
                  have G8 := Lib.hid hq
                  clear hq
                  refine hK.out _ _ (HBX1.out _ G8.out) (fun _ => ?_)
                  clear hK
                  try simp only [Act.put, List.getElem_toArray, List.getElem_cons_zero, List.getElem_cons_succ, List.setIfInBounds_toArray, List.set_cons_zero, List.set_cons_succ]
                  refine wpAnyH_take (i := 9) (v := .bool false) rfl (by kernel_rfl) (by kernel_rfl) (by kernel_rfl) (fun _ _ _ h => (h : False).elim) (Or.inl ⟨by rfl, ?_⟩) (HBX1.out _ G8.out) ?_
                  · intro w hSw
                    obtain ⟨⟨hs0, hs1, hs2⟩, hs3, hs4, hs5⟩ := hSw
                    go_simp
                  try simp only [Act.put, List.getElem_toArray, List.getElem_cons_zero, List.getElem_cons_succ, List.setIfInBounds_toArray, List.set_cons_zero, List.set_cons_succ]
                  refine wpAnyH_take (i := 10) (v := .agg #[.int .i64 kb, .string lb, kvb]) rfl (by kernel_rfl) (by kernel_rfl) (by kernel_rfl) (fun _ _ _ h => (h : False).elim) (Or.inl ⟨by rfl, ?_⟩) (HBX1.out _ G8.out) ?_
                  · intro w hSw
                    obtain ⟨⟨hs0, hs1, hs2⟩, hs3, hs4, hs5⟩ := hSw
                    go_simp
                  try simp only [Act.put, List.getElem_toArray, List.getElem_cons_zero, List.getElem_cons_succ, List.setIfInBounds_toArray, List.set_cons_zero, List.set_cons_succ]
                  refine wpAnyH_take (i := 11) (v := .slice A2 n c2) rfl (by kernel_rfl) (by kernel_rfl) (by kernel_rfl) (fun _ _ _ h => (h : False).elim) (Or.inl ⟨by rfl, ?_⟩) (HBX1.out _ G8.out) ?_
                  · intro w hSw
                    obtain ⟨⟨hs0, hs1, hs2⟩, hs3, hs4, hs5⟩ := hSw
                    go_simp
                  try simp only [Act.put, List.getElem_toArray, List.getElem_cons_zero, List.getElem_cons_succ, List.setIfInBounds_toArray, List.set_cons_zero, List.set_cons_succ]
                  refine wpAnyH_ready (rs := [12]) (by kernel_rfl) (by simp) ?_
                  refine AllReadyH.cons rfl (fun K hK => ?_) AllReadyH.nil
                  go_simp
                  refine (HTX.out _ _ _ _ ((HXB1.out.bel G8.out).mono G8.out.size) G8.out (by omega) HLA.out.2 HTB.out).mono ?_
                  rintro e u12 ⟨rfl, hq⟩
                  have G12 := Lib.hid hq
                  clear hq
                  refine hK.out _ _ (HBX1.out _ G12.out) (fun _ => ?_)
                  clear hK
                  try simp only [Act.put, List.getElem_toArray, List.getElem_cons_zero, List.getElem_cons_succ, List.setIfInBounds_toArray, List.set_cons_zero, List.set_cons_succ]
                  refine wpAnyH_take (i := 13) (v := .bool tb) rfl (by kernel_rfl) (by kernel_rfl) (by kernel_rfl) (fun _ _ _ h => (h : False).elim) (Or.inl ⟨by rfl, ?_⟩) (HBX1.out _ G12.out) ?_
                  · intro w hSw
                    obtain ⟨⟨hs0, hs1, hs2⟩, hs3, hs4, hs5⟩ := hSw
                    go_simp
                  try simp only [Act.put, List.getElem_toArray, List.getElem_cons_zero, List.getElem_cons_succ, List.setIfInBounds_toArray, List.set_cons_zero, List.set_cons_succ]
                  refine wpAnyH_take (i := 14) (v := .bool false) rfl (by kernel_rfl) (by kernel_rfl) (by kernel_rfl) (fun _ _ _ h => (h : False).elim) (Or.inl ⟨by rfl, ?_⟩) (HBX1.out _ G12.out) ?_
                  · intro w hSw
                    obtain ⟨⟨hs0, hs1, hs2⟩, hs3, hs4, hs5⟩ := hSw
                    go_simp
                  try simp only [Act.put, List.getElem_toArray, List.getElem_cons_zero, List.getElem_cons_succ, List.setIfInBounds_toArray, List.set_cons_zero, List.set_cons_succ]
                  refine wpAnyH_take (i := 15) (v := .bool false) rfl (by kernel_rfl) (by kernel_rfl) (by kernel_rfl) (fun _ _ _ h => (h : False).elim) (Or.inl ⟨by rfl, ?_⟩) (HBX1.out _ G12.out) ?_
                  · intro w hSw
                    obtain ⟨⟨hs0, hs1, hs2⟩, hs3, hs4, hs5⟩ := hSw
                    go_simp
                  try simp only [Act.put, List.getElem_toArray, List.getElem_cons_zero, List.getElem_cons_succ, List.setIfInBounds_toArray, List.set_cons_zero, List.set_cons_succ]
                  refine wpAnyH_take (i := 16) (v := .agg #[.int .i64 ka, .string la, kva]) rfl (by kernel_rfl) (by kernel_rfl) (by kernel_rfl) (fun _ _ _ h => (h : False).elim) (Or.inl ⟨by rfl, ?_⟩) (HBX1.out _ G12.out) ?_
                  · intro w hSw
                    obtain ⟨⟨hs0, hs1, hs2⟩, hs3, hs4, hs5⟩ := hSw
                    go_simp
                  try simp only [Act.put, List.getElem_toArray, List.getElem_cons_zero, List.getElem_cons_succ, List.setIfInBounds_toArray, List.set_cons_zero, List.set_cons_succ]
                  refine wpAnyH_take (i := 19) (v := .slice A2 n c2) rfl (by kernel_rfl) (by kernel_rfl) (by kernel_rfl) (fun _ _ _ h => (h : False).elim) (Or.inl ⟨by rfl, ?_⟩) (HBX1.out _ G12.out) ?_
                  · intro w hSw
                    obtain ⟨⟨hs0, hs1, hs2⟩, hs3, hs4, hs5⟩ := hSw
                    go_simp
                  try simp only [Act.put, List.getElem_toArray, List.getElem_cons_zero, List.getElem_cons_succ, List.setIfInBounds_toArray, List.set_cons_zero, List.set_cons_succ]
                  refine wpAnyH_take (i := 21) (v := .slice A2 n c2) rfl (by kernel_rfl) (by kernel_rfl) (by kernel_rfl) (fun _ _ _ h => (h : False).elim) (Or.inl ⟨by rfl, ?_⟩) (HBX1.out _ G12.out) ?_
                  · intro w hSw
                    obtain ⟨⟨hs0, hs1, hs2⟩, hs3, hs4, hs5⟩ := hSw
                    go_simp
                  try simp only [Act.put, List.getElem_toArray, List.getElem_cons_zero, List.getElem_cons_succ, List.setIfInBounds_toArray, List.set_cons_zero, List.set_cons_succ]
                  refine wpAnyH_take (i := 22) (v := .int .i64 n) rfl (by kernel_rfl) (by kernel_rfl) (by kernel_rfl) (fun _ _ _ h => (h : False).elim) (Or.inl ⟨by rfl, ?_⟩) (HBX1.out _ G12.out) ?_
                  · intro w hSw
                    obtain ⟨⟨hs0, hs1, hs2⟩, hs3, hs4, hs5⟩ := hSw
                    go_simp
                  try simp only [Act.put, List.getElem_toArray, List.getElem_cons_zero, List.getElem_cons_succ, List.setIfInBounds_toArray, List.set_cons_zero, List.set_cons_succ]
                  refine wpAnyH_take (i := 23) (v := .bool false) rfl (by kernel_rfl) (by kernel_rfl) (by kernel_rfl) (fun _ _ _ h => (h : False).elim) (Or.inl ⟨by rfl, ?_⟩) (HBX1.out _ G12.out) ?_
                  · intro w hSw
                    obtain ⟨⟨hs0, hs1, hs2⟩, hs3, hs4, hs5⟩ := hSw
                    (go_simp; try omega)
                  try simp only [Act.put, List.getElem_toArray, List.getElem_cons_zero, List.getElem_cons_succ, List.setIfInBounds_toArray, List.set_cons_zero, List.set_cons_succ]
                  refine wpAnyH_ready (rs := [17]) (by kernel_rfl) (by simp) ?_
                  refine AllReadyH.cons rfl (fun K hK => ?_) AllReadyH.nil
                  go_simp
                  have G17 := Lib.hid (G12.out.alloc G12.out.size (.cells #[.int .i64 ka, .string la, kva] 25))
                  refine hK.out _ _ (HBX1.out _ G17.out) (fun _ => ?_)
                  clear hK
                  try simp only [Act.put, List.getElem_toArray, List.getElem_cons_zero, List.getElem_cons_succ, List.setIfInBounds_toArray, List.set_cons_zero, List.set_cons_succ]
                  refine wpAnyH_ready (rs := [18]) (by kernel_rfl) (by simp) ?_
                  refine AllReadyH.cons rfl (fun K hK => ?_) AllReadyH.nil
                  go_simp
                  refine (of_any _ _ _ _ _).mono ?_
                  rintro e u18 ⟨rfl, hq⟩
                  have G18 := Lib.hid (G17.out.trans (hq.below.mono G17.out.size))
                  have X18 := Lib.hid (XV.of1 (k := 6) HXA1.out G12.out G12.out.size (lit_below hq))
                  clear hq
                  refine hK.out _ _ (HBX1.out _ G18.out) (fun _ => ?_)
                  clear hK
                  try simp only [Act.put, List.getElem_toArray, List.getElem_cons_zero, List.getElem_cons_succ, List.setIfInBounds_toArray, List.set_cons_zero, List.set_cons_succ]
                  refine wpAnyH_ready (rs := [20]) (by kernel_rfl) (by simp) ?_
                  refine AllReadyH.cons rfl (fun K hK => ?_) AllReadyH.nil
                  go_simp
                  refine (HTX.out _ _ _ _ X18.out G18.out (by rw [ofX_sz, szL_one]; omega) (HLAO.out _) HTOPT.out).mono ?_
                  rintro e u20 ⟨rfl, hq⟩
                  have G20 := Lib.hid hq
                  clear hq
                  refine hK.out _ _ (HBX1.out _ G20.out) (fun _ => ?_)
                  clear hK
                  try simp only [Act.put, List.getElem_toArray, List.getElem_cons_zero, List.getElem_cons_succ, List.setIfInBounds_toArray, List.set_cons_zero, List.set_cons_succ]
                  refine wpAnyH_take (i := 24) (v := .bool false) rfl (by kernel_rfl) (by kernel_rfl) (by kernel_rfl) (fun _ _ _ h => (h : False).elim) (Or.inl ⟨by rfl, ?_⟩) (HBX1.out _ G20.out) ?_
                  · intro w hSw
                    obtain ⟨⟨hs0, hs1, hs2⟩, hs3, hs4, hs5⟩ := hSw
                    go_simp
                  try simp only [Act.put, List.getElem_toArray, List.getElem_cons_zero, List.getElem_cons_succ, List.setIfInBounds_toArray, List.set_cons_zero, List.set_cons_succ]
                  refine wpAnyH_take (i := 25) (v := .agg #[.int .i64 ka, .string la, kva]) rfl (by kernel_rfl) (by kernel_rfl) (by kernel_rfl) (fun _ _ _ h => (h : False).elim) (Or.inl ⟨by rfl, ?_⟩) (HBX1.out _ G20.out) ?_
                  · intro w hSw
                    obtain ⟨⟨hs0, hs1, hs2⟩, hs3, hs4, hs5⟩ := hSw
                    go_simp
                  try simp only [Act.put, List.getElem_toArray, List.getElem_cons_zero, List.getElem_cons_succ, List.setIfInBounds_toArray, List.set_cons_zero, List.set_cons_succ]
                  refine wpAnyH_take (i := 26) (v := .slice A2 n c2) rfl (by kernel_rfl) (by kernel_rfl) (by kernel_rfl) (fun _ _ _ h => (h : False).elim) (Or.inl ⟨by rfl, ?_⟩) (HBX1.out _ G20.out) ?_
                  · intro w hSw
                    obtain ⟨⟨hs0, hs1, hs2⟩, hs3, hs4, hs5⟩ := hSw
                    go_simp
                  try simp only [Act.put, List.getElem_toArray, List.getElem_cons_zero, List.getElem_cons_succ, List.setIfInBounds_toArray, List.set_cons_zero, List.set_cons_succ]
                  refine wpAnyH_ready (rs := [27]) (by kernel_rfl) (by simp) ?_
                  refine AllReadyH.cons rfl (fun K hK => ?_) AllReadyH.nil
                  go_simp
                  refine (HTX.out _ _ _ _ ((HXA1.out.bel G20.out).mono G20.out.size) G20.out (by omega) HLA.out.1 HTA.out).mono ?_
                  rintro e u27 ⟨rfl, hq⟩
                  have G27 := Lib.hid hq
                  clear hq
                  refine hK.out _ _ (HBX1.out _ G27.out) (fun _ => ?_)
                  clear hK
                  try simp only [Act.put, List.getElem_toArray, List.getElem_cons_zero, List.getElem_cons_succ, List.setIfInBounds_toArray, List.set_cons_zero, List.set_cons_succ]
                  refine wpAnyH_take (i := 28) (v := .bool false) rfl (by kernel_rfl) (by kernel_rfl) (by kernel_rfl) (fun _ _ _ h => (h : False).elim) (Or.inl ⟨by rfl, ?_⟩) (HBX1.out _ G27.out) ?_
                  · intro w hSw
                    obtain ⟨⟨hs0, hs1, hs2⟩, hs3, hs4, hs5⟩ := hSw
                    go_simp
                  try simp only [Act.put, List.getElem_toArray, List.getElem_cons_zero, List.getElem_cons_succ, List.setIfInBounds_toArray, List.set_cons_zero, List.set_cons_succ]
                  refine wpAnyH_take (i := 29) (v := .bool false) rfl (by kernel_rfl) (by kernel_rfl) (by kernel_rfl) (fun _ _ _ h => (h : False).elim) (Or.inl ⟨by rfl, ?_⟩) (HBX1.out _ G27.out) ?_
                  · intro w hSw
                    obtain ⟨⟨hs0, hs1, hs2⟩, hs3, hs4, hs5⟩ := hSw
                    go_simp
                  try simp only [Act.put, List.getElem_toArray, List.getElem_cons_zero, List.getElem_cons_succ, List.setIfInBounds_toArray, List.set_cons_zero, List.set_cons_succ]
                  refine wpAnyH_take (i := 30) (v := .bool false) rfl (by kernel_rfl) (by kernel_rfl) (by kernel_rfl) (fun _ _ _ h => (h : False).elim) (Or.inl ⟨by rfl, ?_⟩) (HBX1.out _ G27.out) ?_
                  · intro w hSw
                    obtain ⟨⟨hs0, hs1, hs2⟩, hs3, hs4, hs5⟩ := hSw
                    go_simp
                  try simp only [Act.put, List.getElem_toArray, List.getElem_cons_zero, List.getElem_cons_succ, List.setIfInBounds_toArray, List.set_cons_zero, List.set_cons_succ]
                  refine ⟨by kernel_rfl, ?_⟩
                  refine NoPanic.normal ?_
                  go_wp2_with fail
                  go_meet
                  exact ⟨rfl, G27.out⟩
            case rest =>
              obtain ⟨rfl, hb2⟩ := hcut
              have HB2 := Lib.hid hb2
              clear hb2 HTALT0 HTOPT0 G0 HTE
              go_upto_region 10 with (fail)
              go_loopw [8, 9, 10, 11, 12] (fun u8 u9 u10 u11 u12 wr => ∃ k : Nat, k ≤ n + 1 ∧ u11 = .int .i64 k ∧ u8 = .bool (orN fS k) ∧ u9 = .bool (decide (n = 0) || orN fM k) ∧ u10 = .bool (orN fP k) ∧ Below W1.heap.size W1 wr) (fun u8 u9 u10 u11 u12 _ => n + 1 - (intOf u11).toNat)
              case atStart =>
                refine ⟨0, by omega, rfl, rfl, ?_, rfl, HB2.out⟩
                rcases Nat.eq_zero_or_pos n with h | h
                · subst h; rfl
                · have h1 : ((n : Int) == 0) = false := by simp; omega
                  rw [h1, decide_eq_false (by omega)]; rfl
              case round =>
                obtain ⟨k, hk, rfl, rfl, rfl, rfl, hbr⟩ := hrel
                have HBR := Lib.hid hbr
                clear hbr
                by_cases hkn : k ≤ n
                · have hki : (k : Int) ≤ (n : Int) := by omega
                  have hkc : (k : Int) ≤ (c2 : Int) := by omega
                  have hk0 : (0 : Int) ≤ (k : Int) := by omega
                  obtain ⟨fa, hfa⟩ : ∃ fa, takesB a (word.take k) = fa := ⟨_, rfl⟩
                  obtain ⟨fb, hfb⟩ : ∃ fb, takesB b (word.drop k) = fb := ⟨_, rfl⟩
                  obtain ⟨fs, hfs⟩ : ∃ fs, takesB (ofX 4 [a]) (word.drop k) = fs := ⟨_, rfl⟩
                  have hS : orN fS (k + 1) = (orN fS k || (fa && fb)) := by rw [orN, show fS k = (fa && fb) by rw [HF.out.1, ← hfa, ← hfb]]
                  obtain ⟨kp, hkp⟩ : ∃ kp, decide (0 < k) = kp := ⟨_, rfl⟩
                  have hM : (decide (n = 0) || orN fM (k + 1)) = ((decide (n = 0) || orN fM k) || (kp && fa && fs)) := by rw [orN, show fM k = (kp && fa && fs) by rw [HF.out.2.1, ← hfa, ← hfs, ← hkp], Bool.or_assoc]
                  have HKP := Lib.hid hkp
                  have hP : orN fP (k + 1) = (orN fP k || (fa && fs)) := by rw [orN, show fP k = (fa && fs) by rw [HF.out.2.2, ← hfa, ← hfs]]
                  have HTK := Lib.hid (HTKA.out k fa hkn hfa)
                  have HTD := Lib.hid (HTDA.out k fb hkn hfb)
                  have HTS := Lib.hid (HTSA.out k fs hkn hfs)
                  have HQ := Lib.hid (And.intro hS (And.intro hM hP))
                  clear hfa hfb hfs hS hM hP hkp
                  generalize hq8 : orN fS k = q8 at *
                  generalize hq9 : (decide (n = 0) || orN fM k) = q9 at *
                  generalize hq10 : orN fP k = q10 at *
                  clear hq8 hq9 hq10
                  go_upto_region 12 with (fail)
                  have GR0 := Lib.hid HBR.out.drew
                  refine wp_region_noPanic ?_
                  refine wp_region_held_drew (S := fun W => ((W.cell? ⟨w.heap.size, 0, none⟩ = some (.int .i64 ka) ∧ W.cell? ⟨w.heap.size, 1, none⟩ = some (.string la) ∧ W.cell? ⟨w.heap.size, 2, none⟩ = some kva) ∧ W.cell? ⟨w.heap.size + 1, 0, none⟩ = some (.int .i64 kb) ∧ W.cell? ⟨w.heap.size + 1, 1, none⟩ = some (.string lb) ∧ W.cell? ⟨w.heap.size + 1, 2, none⟩ = some kvb)) (by kernel_rfl) (HBX1.out _ GR0.out) (fun hHeld => ?_)
                  clear hHeld
                  refine wpAnyH_take (i := 0) (v := .agg #[.int .i64 ka, .string la, kva]) rfl (by kernel_rfl) (by kernel_rfl) (by kernel_rfl) (fun _ _ _ h => (h : False).elim) (Or.inl ⟨by rfl, ?_⟩) (HBX1.out _ GR0.out) ?_
                  · intro w hSw
                    obtain ⟨⟨hs0, hs1, hs2⟩, hs3, hs4, hs5⟩ := hSw
                    go_simp
                  try simp only [Act.put, List.getElem_toArray, List.getElem_cons_zero, List.getElem_cons_succ, List.setIfInBounds_toArray, List.set_cons_zero, List.set_cons_succ]
                  refine wpAnyH_take (i := 1) (v := .slice A2 n c2) rfl (by kernel_rfl) (by kernel_rfl) (by kernel_rfl) (fun _ _ _ h => (h : False).elim) (Or.inl ⟨by rfl, ?_⟩) (HBX1.out _ GR0.out) ?_
                  · intro w hSw
                    obtain ⟨⟨hs0, hs1, hs2⟩, hs3, hs4, hs5⟩ := hSw
                    go_simp
                  try simp only [Act.put, List.getElem_toArray, List.getElem_cons_zero, List.getElem_cons_succ, List.setIfInBounds_toArray, List.set_cons_zero, List.set_cons_succ]
                  refine wpAnyH_take (i := 2) (v := .int .i64 k) rfl (by kernel_rfl) (by kernel_rfl) (by kernel_rfl) (fun _ _ _ h => (h : False).elim) (Or.inl ⟨by rfl, ?_⟩) (HBX1.out _ GR0.out) ?_
                  · intro w hSw
                    obtain ⟨⟨hs0, hs1, hs2⟩, hs3, hs4, hs5⟩ := hSw
                    go_simp
                  try simp only [Act.put, List.getElem_toArray, List.getElem_cons_zero, List.getElem_cons_succ, List.setIfInBounds_toArray, List.set_cons_zero, List.set_cons_succ]
                  refine wpAnyH_take (i := 3) (v := .slice A2 k c2) rfl (by kernel_rfl) (by kernel_rfl) (by kernel_rfl) (fun _ _ _ h => (h : False).elim) (Or.inl ⟨by rfl, ?_⟩) (HBX1.out _ GR0.out) ?_
                  · intro w hSw
                    obtain ⟨⟨hs0, hs1, hs2⟩, hs3, hs4, hs5⟩ := hSw
                    go_simp
                  try simp only [Act.put, List.getElem_toArray, List.getElem_cons_zero, List.getElem_cons_succ, List.setIfInBounds_toArray, List.set_cons_zero, List.set_cons_succ]
                  refine wpAnyH_ready (rs := [4]) (by kernel_rfl) (by simp) ?_
                  refine AllReadyH.cons rfl (fun K hK => ?_) AllReadyH.nil
                  go_simp
                  refine (HTK.out _ GR0.out).mono ?_
                  rintro e y4 ⟨rfl, hq⟩
                  have GR4 := Lib.hid hq
                  clear hq
                  refine hK.out _ _ (HBX1.out _ GR4.out) (fun _ => ?_)
                  clear hK
                  try simp only [Act.put, List.getElem_toArray, List.getElem_cons_zero, List.getElem_cons_succ, List.setIfInBounds_toArray, List.set_cons_zero, List.set_cons_succ]
                  refine wpAnyH_take (i := 5) (v := .bool fa) rfl (by kernel_rfl) (by kernel_rfl) (by kernel_rfl) (fun _ _ _ h => (h : False).elim) (Or.inl ⟨by rfl, ?_⟩) (HBX1.out _ GR4.out) ?_
                  · intro w hSw
                    obtain ⟨⟨hs0, hs1, hs2⟩, hs3, hs4, hs5⟩ := hSw
                    go_simp
                  try simp only [Act.put, List.getElem_toArray, List.getElem_cons_zero, List.getElem_cons_succ, List.setIfInBounds_toArray, List.set_cons_zero, List.set_cons_succ]
                  refine ⟨by kernel_rfl, ?_⟩
                  refine NoPanic.normal ?_
                  go_upto_region 13 with (fail)
                  go_cut [8] from 77 to 124 (fun u8 wx => u8 = .bool (q8 || (fa && fb)) ∧ Below W1.heap.size W1 wx)
                  case first =>
                    have GA0 := Lib.hid GR4.out.drew
                    cases q8 with
                    | true =>
                      refine wp_region_noPanic ?_
                      refine wp_region_held_drew (S := fun W => ((W.cell? ⟨w.heap.size, 0, none⟩ = some (.int .i64 ka) ∧ W.cell? ⟨w.heap.size, 1, none⟩ = some (.string la) ∧ W.cell? ⟨w.heap.size, 2, none⟩ = some kva) ∧ W.cell? ⟨w.heap.size + 1, 0, none⟩ = some (.int .i64 kb) ∧ W.cell? ⟨w.heap.size + 1, 1, none⟩ = some (.string lb) ∧ W.cell? ⟨w.heap.size + 1, 2, none⟩ = some kvb)) (by kernel_rfl) (HBX1.out _ GA0.out) (fun hHeld => ?_)
                      clear hHeld
                      refine wpAnyH_take (i := 0) (v := .bool true) rfl (by kernel_rfl) (by kernel_rfl) (by kernel_rfl) (fun _ _ _ h => (h : False).elim) (Or.inl ⟨by rfl, ?_⟩) (HBX1.out _ GA0.out) ?_
                      · intro w hSw
                        obtain ⟨⟨hs0, hs1, hs2⟩, hs3, hs4, hs5⟩ := hSw
                        go_simp
                      try simp only [Act.put, List.getElem_toArray, List.getElem_cons_zero, List.getElem_cons_succ, List.setIfInBounds_toArray, List.set_cons_zero, List.set_cons_succ]
                      refine wpAnyH_take (i := 1) (v := .bool true) rfl (by kernel_rfl) (by kernel_rfl) (by kernel_rfl) (fun _ _ _ h => (h : False).elim) (Or.inl ⟨by rfl, ?_⟩) (HBX1.out _ GA0.out) ?_
                      · intro w hSw
                        obtain ⟨⟨hs0, hs1, hs2⟩, hs3, hs4, hs5⟩ := hSw
                        go_simp
                      try simp only [Act.put, List.getElem_toArray, List.getElem_cons_zero, List.getElem_cons_succ, List.setIfInBounds_toArray, List.set_cons_zero, List.set_cons_succ]
                      refine wpAnyH_take (i := 2) (v := undef) rfl (by kernel_rfl) (by kernel_rfl) (by kernel_rfl) (fun _ _ _ h => (h : False).elim) (Or.inr ⟨by rfl, rfl⟩) (HBX1.out _ GA0.out) ?_
                      try simp only [Act.put, List.getElem_toArray, List.getElem_cons_zero, List.getElem_cons_succ, List.setIfInBounds_toArray, List.set_cons_zero, List.set_cons_succ]
                      refine wpAnyH_take (i := 3) (v := undef) rfl (by kernel_rfl) (by kernel_rfl) (by kernel_rfl) (fun _ _ _ h => (h : False).elim) (Or.inr ⟨by rfl, rfl⟩) (HBX1.out _ GA0.out) ?_
                      try simp only [Act.put, List.getElem_toArray, List.getElem_cons_zero, List.getElem_cons_succ, List.setIfInBounds_toArray, List.set_cons_zero, List.set_cons_succ]
                      refine wpAnyH_take (i := 4) (v := undef) rfl (by kernel_rfl) (by kernel_rfl) (by kernel_rfl) (fun _ _ _ h => (h : False).elim) (Or.inr ⟨by rfl, rfl⟩) (HBX1.out _ GA0.out) ?_
                      try simp only [Act.put, List.getElem_toArray, List.getElem_cons_zero, List.getElem_cons_succ, List.setIfInBounds_toArray, List.set_cons_zero, List.set_cons_succ]
                      refine wpAnyH_take (i := 5) (v := undef) rfl (by kernel_rfl) (by kernel_rfl) (by kernel_rfl) (fun _ _ _ h => (h : False).elim) (Or.inr ⟨by rfl, rfl⟩) (HBX1.out _ GA0.out) ?_
                      try simp only [Act.put, List.getElem_toArray, List.getElem_cons_zero, List.getElem_cons_succ, List.setIfInBounds_toArray, List.set_cons_zero, List.set_cons_succ]
                      refine wpAnyH_take (i := 6) (v := undef) rfl (by kernel_rfl) (by kernel_rfl) (by kernel_rfl) (fun _ _ _ h => (h : False).elim) (Or.inr ⟨by rfl, rfl⟩) (HBX1.out _ GA0.out) ?_
                      try simp only [Act.put, List.getElem_toArray, List.getElem_cons_zero, List.getElem_cons_succ, List.setIfInBounds_toArray, List.set_cons_zero, List.set_cons_succ]
                      refine wpAnyH_take (i := 7) (v := undef) rfl (by kernel_rfl) (by kernel_rfl) (by kernel_rfl) (fun _ _ _ h => (h : False).elim) (Or.inr ⟨by rfl, rfl⟩) (HBX1.out _ GA0.out) ?_
                      try simp only [Act.put, List.getElem_toArray, List.getElem_cons_zero, List.getElem_cons_succ, List.setIfInBounds_toArray, List.set_cons_zero, List.set_cons_succ]
                      refine wpAnyH_take (i := 8) (v := undef) rfl (by kernel_rfl) (by kernel_rfl) (by kernel_rfl) (fun _ _ _ h => (h : False).elim) (Or.inr ⟨by rfl, rfl⟩) (HBX1.out _ GA0.out) ?_
                      try simp only [Act.put, List.getElem_toArray, List.getElem_cons_zero, List.getElem_cons_succ, List.setIfInBounds_toArray, List.set_cons_zero, List.set_cons_succ]
                      refine wpAnyH_take (i := 9) (v := undef) rfl (by kernel_rfl) (by kernel_rfl) (by kernel_rfl) (fun _ _ _ h => (h : False).elim) (Or.inr ⟨by rfl, rfl⟩) (HBX1.out _ GA0.out) ?_
                      try simp only [Act.put, List.getElem_toArray, List.getElem_cons_zero, List.getElem_cons_succ, List.setIfInBounds_toArray, List.set_cons_zero, List.set_cons_succ]
                      refine wpAnyH_take (i := 10) (v := .bool true) rfl (by kernel_rfl) (by kernel_rfl) (by kernel_rfl) (fun _ _ _ h => (h : False).elim) (Or.inl ⟨by rfl, ?_⟩) (HBX1.out _ GA0.out) ?_
                      · intro w hSw
                        obtain ⟨⟨hs0, hs1, hs2⟩, hs3, hs4, hs5⟩ := hSw
                        go_simp
                      try simp only [Act.put, List.getElem_toArray, List.getElem_cons_zero, List.getElem_cons_succ, List.setIfInBounds_toArray, List.set_cons_zero, List.set_cons_succ]
                      refine wpAnyH_take (i := 11) (v := .bool true) rfl (by kernel_rfl) (by kernel_rfl) (by kernel_rfl) (fun _ _ _ h => (h : False).elim) (Or.inl ⟨by rfl, ?_⟩) (HBX1.out _ GA0.out) ?_
                      · intro w hSw
                        obtain ⟨⟨hs0, hs1, hs2⟩, hs3, hs4, hs5⟩ := hSw
                        go_simp
                      try simp only [Act.put, List.getElem_toArray, List.getElem_cons_zero, List.getElem_cons_succ, List.setIfInBounds_toArray, List.set_cons_zero, List.set_cons_succ]
                      refine ⟨by kernel_rfl, ?_⟩
                      refine NoPanic.normal ?_
                      go_wp2_with fail
                      go_meet
                      exact ⟨rfl, GA0.out⟩
                    | false =>
                      cases fa with
                      | true =>
                        refine wp_region_noPanic ?_
                        refine wp_region_held_drew (S := fun W => ((W.cell? ⟨w.heap.size, 0, none⟩ = some (.int .i64 ka) ∧ W.cell? ⟨w.heap.size, 1, none⟩ = some (.string la) ∧ W.cell? ⟨w.heap.size, 2, none⟩ = some kva) ∧ W.cell? ⟨w.heap.size + 1, 0, none⟩ = some (.int .i64 kb) ∧ W.cell? ⟨w.heap.size + 1, 1, none⟩ = some (.string lb) ∧ W.cell? ⟨w.heap.size + 1, 2, none⟩ = some kvb)) (by kernel_rfl) (HBX1.out _ GA0.out) (fun hHeld => ?_)
                        clear hHeld
                        refine wpAnyH_take (i := 0) (v := .bool false) rfl (by kernel_rfl) (by kernel_rfl) (by kernel_rfl) (fun _ _ _ h => (h : False).elim) (Or.inl ⟨by rfl, ?_⟩) (HBX1.out _ GA0.out) ?_
                        · intro w hSw
                          obtain ⟨⟨hs0, hs1, hs2⟩, hs3, hs4, hs5⟩ := hSw
                          go_simp
                        try simp only [Act.put, List.getElem_toArray, List.getElem_cons_zero, List.getElem_cons_succ, List.setIfInBounds_toArray, List.set_cons_zero, List.set_cons_succ]
                        refine wpAnyH_take (i := 1) (v := .bool false) rfl (by kernel_rfl) (by kernel_rfl) (by kernel_rfl) (fun _ _ _ h => (h : False).elim) (Or.inl ⟨by rfl, ?_⟩) (HBX1.out _ GA0.out) ?_
                        · intro w hSw
                          obtain ⟨⟨hs0, hs1, hs2⟩, hs3, hs4, hs5⟩ := hSw
                          go_simp
                        try simp only [Act.put, List.getElem_toArray, List.getElem_cons_zero, List.getElem_cons_succ, List.setIfInBounds_toArray, List.set_cons_zero, List.set_cons_succ]
                        refine wpAnyH_take (i := 2) (v := .bool true) rfl (by kernel_rfl) (by kernel_rfl) (by kernel_rfl) (fun _ _ _ h => (h : False).elim) (Or.inl ⟨by rfl, ?_⟩) (HBX1.out _ GA0.out) ?_
                        · intro w hSw
                          obtain ⟨⟨hs0, hs1, hs2⟩, hs3, hs4, hs5⟩ := hSw
                          go_simp
                        try simp only [Act.put, List.getElem_toArray, List.getElem_cons_zero, List.getElem_cons_succ, List.setIfInBounds_toArray, List.set_cons_zero, List.set_cons_succ]
                        refine wpAnyH_take (i := 3) (v := .bool true) rfl (by kernel_rfl) (by kernel_rfl) (by kernel_rfl) (fun _ _ _ h => (h : False).elim) (Or.inl ⟨by rfl, ?_⟩) (HBX1.out _ GA0.out) ?_
                        · intro w hSw
                          obtain ⟨⟨hs0, hs1, hs2⟩, hs3, hs4, hs5⟩ := hSw
                          go_simp
                        try simp only [Act.put, List.getElem_toArray, List.getElem_cons_zero, List.getElem_cons_succ, List.setIfInBounds_toArray, List.set_cons_zero, List.set_cons_succ]
                        refine wpAnyH_take (i := 4) (v := .agg #[.int .i64 kb, .string lb, kvb]) rfl (by kernel_rfl) (by kernel_rfl) (by kernel_rfl) (fun _ _ _ h => (h : False).elim) (Or.inl ⟨by rfl, ?_⟩) (HBX1.out _ GA0.out) ?_
                        · intro w hSw
                          obtain ⟨⟨hs0, hs1, hs2⟩, hs3, hs4, hs5⟩ := hSw
                          go_simp
                        try simp only [Act.put, List.getElem_toArray, List.getElem_cons_zero, List.getElem_cons_succ, List.setIfInBounds_toArray, List.set_cons_zero, List.set_cons_succ]
                        refine wpAnyH_take (i := 5) (v := .slice A2 n c2) rfl (by kernel_rfl) (by kernel_rfl) (by kernel_rfl) (fun _ _ _ h => (h : False).elim) (Or.inl ⟨by rfl, ?_⟩) (HBX1.out _ GA0.out) ?_
                        · intro w hSw
                          obtain ⟨⟨hs0, hs1, hs2⟩, hs3, hs4, hs5⟩ := hSw
                          go_simp
                        try simp only [Act.put, List.getElem_toArray, List.getElem_cons_zero, List.getElem_cons_succ, List.setIfInBounds_toArray, List.set_cons_zero, List.set_cons_succ]
                        refine wpAnyH_take (i := 6) (v := .int .i64 k) rfl (by kernel_rfl) (by kernel_rfl) (by kernel_rfl) (fun _ _ _ h => (h : False).elim) (Or.inl ⟨by rfl, ?_⟩) (HBX1.out _ GA0.out) ?_
                        · intro w hSw
                          obtain ⟨⟨hs0, hs1, hs2⟩, hs3, hs4, hs5⟩ := hSw
                          go_simp
                        try simp only [Act.put, List.getElem_toArray, List.getElem_cons_zero, List.getElem_cons_succ, List.setIfInBounds_toArray, List.set_cons_zero, List.set_cons_succ]
                        refine wpAnyH_take (i := 7) (v := .slice (dropA A2 c2 k) (n - k : Nat) (c2 - k : Nat)) rfl (by kernel_rfl) (by kernel_rfl) (by kernel_rfl) (fun _ _ _ h => (h : False).elim) (Or.inl ⟨by rfl, ?_⟩) (HBX1.out _ GA0.out) ?_
                        · intro w hSw
                          obtain ⟨⟨hs0, hs1, hs2⟩, hs3, hs4, hs5⟩ := hSw
                          (unfold dropA; go_simp)
                        try simp only [Act.put, List.getElem_toArray, List.getElem_cons_zero, List.getElem_cons_succ, List.setIfInBounds_toArray, List.set_cons_zero, List.set_cons_succ]
                        refine wpAnyH_ready (rs := [8]) (by kernel_rfl) (by simp) ?_
                        refine AllReadyH.cons rfl (fun K hK => ?_) AllReadyH.nil
                        go_simp
                        refine (HTD.out _ GA0.out).mono ?_
                        rintro e x8 ⟨rfl, hq⟩
                        have GA8 := Lib.hid hq
                        clear hq
                        refine hK.out _ _ (HBX1.out _ GA8.out) (fun _ => ?_)
                        clear hK
                        try simp only [Act.put, List.getElem_toArray, List.getElem_cons_zero, List.getElem_cons_succ, List.setIfInBounds_toArray, List.set_cons_zero, List.set_cons_succ]
                        refine wpAnyH_take (i := 9) (v := .bool fb) rfl (by kernel_rfl) (by kernel_rfl) (by kernel_rfl) (fun _ _ _ h => (h : False).elim) (Or.inl ⟨by rfl, ?_⟩) (HBX1.out _ GA8.out) ?_
                        · intro w hSw
                          obtain ⟨⟨hs0, hs1, hs2⟩, hs3, hs4, hs5⟩ := hSw
                          go_simp
                        try simp only [Act.put, List.getElem_toArray, List.getElem_cons_zero, List.getElem_cons_succ, List.setIfInBounds_toArray, List.set_cons_zero, List.set_cons_succ]
                        refine wpAnyH_take (i := 10) (v := .bool fb) rfl (by kernel_rfl) (by kernel_rfl) (by kernel_rfl) (fun _ _ _ h => (h : False).elim) (Or.inl ⟨by rfl, ?_⟩) (HBX1.out _ GA8.out) ?_
                        · intro w hSw
                          obtain ⟨⟨hs0, hs1, hs2⟩, hs3, hs4, hs5⟩ := hSw
                          go_simp
                        try simp only [Act.put, List.getElem_toArray, List.getElem_cons_zero, List.getElem_cons_succ, List.setIfInBounds_toArray, List.set_cons_zero, List.set_cons_succ]
                        refine wpAnyH_take (i := 11) (v := .bool fb) rfl (by kernel_rfl) (by kernel_rfl) (by kernel_rfl) (fun _ _ _ h => (h : False).elim) (Or.inl ⟨by rfl, ?_⟩) (HBX1.out _ GA8.out) ?_
                        · intro w hSw
                          obtain ⟨⟨hs0, hs1, hs2⟩, hs3, hs4, hs5⟩ := hSw
                          go_simp
                        try simp only [Act.put, List.getElem_toArray, List.getElem_cons_zero, List.getElem_cons_succ, List.setIfInBounds_toArray, List.set_cons_zero, List.set_cons_succ]
                        refine ⟨by kernel_rfl, ?_⟩
                        refine NoPanic.normal ?_
                        go_wp2_with fail
                        go_meet
                        exact ⟨rfl, GA8.out⟩
                      | false =>
                        refine wp_region_noPanic ?_
                        refine wp_region_held_drew (S := fun W => ((W.cell? ⟨w.heap.size, 0, none⟩ = some (.int .i64 ka) ∧ W.cell? ⟨w.heap.size, 1, none⟩ = some (.string la) ∧ W.cell? ⟨w.heap.size, 2, none⟩ = some kva) ∧ W.cell? ⟨w.heap.size + 1, 0, none⟩ = some (.int .i64 kb) ∧ W.cell? ⟨w.heap.size + 1, 1, none⟩ = some (.string lb) ∧ W.cell? ⟨w.heap.size + 1, 2, none⟩ = some kvb)) (by kernel_rfl) (HBX1.out _ GA0.out) (fun hHeld => ?_)
                        clear hHeld
                        refine wpAnyH_take (i := 0) (v := .bool false) rfl (by kernel_rfl) (by kernel_rfl) (by kernel_rfl) (fun _ _ _ h => (h : False).elim) (Or.inl ⟨by rfl, ?_⟩) (HBX1.out _ GA0.out) ?_
                        · intro w hSw
                          obtain ⟨⟨hs0, hs1, hs2⟩, hs3, hs4, hs5⟩ := hSw
                          go_simp
                        try simp only [Act.put, List.getElem_toArray, List.getElem_cons_zero, List.getElem_cons_succ, List.setIfInBounds_toArray, List.set_cons_zero, List.set_cons_succ]
                        refine wpAnyH_take (i := 1) (v := .bool false) rfl (by kernel_rfl) (by kernel_rfl) (by kernel_rfl) (fun _ _ _ h => (h : False).elim) (Or.inl ⟨by rfl, ?_⟩) (HBX1.out _ GA0.out) ?_
                        · intro w hSw
                          obtain ⟨⟨hs0, hs1, hs2⟩, hs3, hs4, hs5⟩ := hSw
                          go_simp
                        try simp only [Act.put, List.getElem_toArray, List.getElem_cons_zero, List.getElem_cons_succ, List.setIfInBounds_toArray, List.set_cons_zero, List.set_cons_succ]
                        refine wpAnyH_take (i := 2) (v := .bool false) rfl (by kernel_rfl) (by kernel_rfl) (by kernel_rfl) (fun _ _ _ h => (h : False).elim) (Or.inl ⟨by rfl, ?_⟩) (HBX1.out _ GA0.out) ?_
                        · intro w hSw
                          obtain ⟨⟨hs0, hs1, hs2⟩, hs3, hs4, hs5⟩ := hSw
                          go_simp
                        try simp only [Act.put, List.getElem_toArray, List.getElem_cons_zero, List.getElem_cons_succ, List.setIfInBounds_toArray, List.set_cons_zero, List.set_cons_succ]
                        refine wpAnyH_take (i := 3) (v := .bool false) rfl (by kernel_rfl) (by kernel_rfl) (by kernel_rfl) (fun _ _ _ h => (h : False).elim) (Or.inl ⟨by rfl, ?_⟩) (HBX1.out _ GA0.out) ?_
                        · intro w hSw
                          obtain ⟨⟨hs0, hs1, hs2⟩, hs3, hs4, hs5⟩ := hSw
                          go_simp
                        try simp only [Act.put, List.getElem_toArray, List.getElem_cons_zero, List.getElem_cons_succ, List.setIfInBounds_toArray, List.set_cons_zero, List.set_cons_succ]
                        refine wpAnyH_take (i := 4) (v := undef) rfl (by kernel_rfl) (by kernel_rfl) (by kernel_rfl) (fun _ _ _ h => (h : False).elim) (Or.inr ⟨by rfl, rfl⟩) (HBX1.out _ GA0.out) ?_
                        try simp only [Act.put, List.getElem_toArray, List.getElem_cons_zero, List.getElem_cons_succ, List.setIfInBounds_toArray, List.set_cons_zero, List.set_cons_succ]
                        refine wpAnyH_take (i := 5) (v := undef) rfl (by kernel_rfl) (by kernel_rfl) (by kernel_rfl) (fun _ _ _ h => (h : False).elim) (Or.inr ⟨by rfl, rfl⟩) (HBX1.out _ GA0.out) ?_
                        try simp only [Act.put, List.getElem_toArray, List.getElem_cons_zero, List.getElem_cons_succ, List.setIfInBounds_toArray, List.set_cons_zero, List.set_cons_succ]
                        refine wpAnyH_take (i := 6) (v := undef) rfl (by kernel_rfl) (by kernel_rfl) (by kernel_rfl) (fun _ _ _ h => (h : False).elim) (Or.inr ⟨by rfl, rfl⟩) (HBX1.out _ GA0.out) ?_
                        try simp only [Act.put, List.getElem_toArray, List.getElem_cons_zero, List.getElem_cons_succ, List.setIfInBounds_toArray, List.set_cons_zero, List.set_cons_succ]
                        refine wpAnyH_take (i := 7) (v := undef) rfl (by kernel_rfl) (by kernel_rfl) (by kernel_rfl) (fun _ _ _ h => (h : False).elim) (Or.inr ⟨by rfl, rfl⟩) (HBX1.out _ GA0.out) ?_
                        try simp only [Act.put, List.getElem_toArray, List.getElem_cons_zero, List.getElem_cons_succ, List.setIfInBounds_toArray, List.set_cons_zero, List.set_cons_succ]
                        refine wpAnyH_take (i := 8) (v := undef) rfl (by kernel_rfl) (by kernel_rfl) (by kernel_rfl) (fun _ _ _ h => (h : False).elim) (Or.inr ⟨by rfl, rfl⟩) (HBX1.out _ GA0.out) ?_
                        try simp only [Act.put, List.getElem_toArray, List.getElem_cons_zero, List.getElem_cons_succ, List.setIfInBounds_toArray, List.set_cons_zero, List.set_cons_succ]
                        refine wpAnyH_take (i := 9) (v := .bool false) rfl (by kernel_rfl) (by kernel_rfl) (by kernel_rfl) (fun _ _ _ h => (h : False).elim) (Or.inl ⟨by rfl, ?_⟩) (HBX1.out _ GA0.out) ?_
                        · intro w hSw
                          obtain ⟨⟨hs0, hs1, hs2⟩, hs3, hs4, hs5⟩ := hSw
                          go_simp
                        try simp only [Act.put, List.getElem_toArray, List.getElem_cons_zero, List.getElem_cons_succ, List.setIfInBounds_toArray, List.set_cons_zero, List.set_cons_succ]
                        refine wpAnyH_take (i := 10) (v := .bool false) rfl (by kernel_rfl) (by kernel_rfl) (by kernel_rfl) (fun _ _ _ h => (h : False).elim) (Or.inl ⟨by rfl, ?_⟩) (HBX1.out _ GA0.out) ?_
                        · intro w hSw
                          obtain ⟨⟨hs0, hs1, hs2⟩, hs3, hs4, hs5⟩ := hSw
                          go_simp
                        try simp only [Act.put, List.getElem_toArray, List.getElem_cons_zero, List.getElem_cons_succ, List.setIfInBounds_toArray, List.set_cons_zero, List.set_cons_succ]
                        refine wpAnyH_take (i := 11) (v := .bool false) rfl (by kernel_rfl) (by kernel_rfl) (by kernel_rfl) (fun _ _ _ h => (h : False).elim) (Or.inl ⟨by rfl, ?_⟩) (HBX1.out _ GA0.out) ?_
                        · intro w hSw
                          obtain ⟨⟨hs0, hs1, hs2⟩, hs3, hs4, hs5⟩ := hSw
                          go_simp
                        try simp only [Act.put, List.getElem_toArray, List.getElem_cons_zero, List.getElem_cons_succ, List.setIfInBounds_toArray, List.set_cons_zero, List.set_cons_succ]
                        refine ⟨by kernel_rfl, ?_⟩
                        refine NoPanic.normal ?_
                        go_wp2_with fail
                        go_meet
                        exact ⟨rfl, GA0.out⟩
                  case rest =>
                    obtain ⟨rfl, hbA⟩ := hcut
                    have GA := Lib.hid hbA
                    clear hbA
                    go_upto_region 14 with (fail)
                    go_cut [9] from 77 to 124 (fun u9 wx => u9 = .bool (q9 || (kp && fa && fs)) ∧ Below W1.heap.size W1 wx)
                    case first =>
                      have GA0 := Lib.hid GA.out.drew
                      cases q9 with
                      | true =>
                        refine wp_region_noPanic ?_
                        refine wp_region_held_drew (S := fun W => (((W.cell? ⟨w.heap.size, 0, none⟩ = some (.int .i64 ka) ∧ W.cell? ⟨w.heap.size, 1, none⟩ = some (.string la) ∧ W.cell? ⟨w.heap.size, 2, none⟩ = some kva) ∧ W.cell? ⟨w.heap.size + 1, 0, none⟩ = some (.int .i64 kb) ∧ W.cell? ⟨w.heap.size + 1, 1, none⟩ = some (.string lb) ∧ W.cell? ⟨w.heap.size + 1, 2, none⟩ = some kvb) ∧ (W.cell? ⟨w7.heap.size, 0, none⟩ = some (.int .i64 4) ∧ W.cell? ⟨w7.heap.size, 1, none⟩ = some (.string ⟨#[]⟩) ∧ W.cell? ⟨w7.heap.size, 2, none⟩ = some (.slice (some ⟨w6.heap.size, 0, none⟩) 1 1)))) (by kernel_rfl) (HBY1.out _ GA0.out) (fun hHeld => ?_)
                        clear hHeld
                        refine wpAnyH_take (i := 0) (v := .bool true) rfl (by kernel_rfl) (by kernel_rfl) (by kernel_rfl) (fun _ _ _ h => (h : False).elim) (Or.inl ⟨by rfl, ?_⟩) (HBY1.out _ GA0.out) ?_
                        · intro w hSw
                          obtain ⟨⟨⟨hs0, hs1, hs2⟩, hs3, hs4, hs5⟩, hs6, hs7, hs8⟩ := hSw
                          go_simp
                        try simp only [Act.put, List.getElem_toArray, List.getElem_cons_zero, List.getElem_cons_succ, List.setIfInBounds_toArray, List.set_cons_zero, List.set_cons_succ]
                        refine wpAnyH_take (i := 1) (v := .bool true) rfl (by kernel_rfl) (by kernel_rfl) (by kernel_rfl) (fun _ _ _ h => (h : False).elim) (Or.inl ⟨by rfl, ?_⟩) (HBY1.out _ GA0.out) ?_
                        · intro w hSw
                          obtain ⟨⟨⟨hs0, hs1, hs2⟩, hs3, hs4, hs5⟩, hs6, hs7, hs8⟩ := hSw
                          go_simp
                        try simp only [Act.put, List.getElem_toArray, List.getElem_cons_zero, List.getElem_cons_succ, List.setIfInBounds_toArray, List.set_cons_zero, List.set_cons_succ]
                        refine wpAnyH_take (i := 2) (v := undef) rfl (by kernel_rfl) (by kernel_rfl) (by kernel_rfl) (fun _ _ _ h => (h : False).elim) (Or.inr ⟨by rfl, rfl⟩) (HBY1.out _ GA0.out) ?_
                        try simp only [Act.put, List.getElem_toArray, List.getElem_cons_zero, List.getElem_cons_succ, List.setIfInBounds_toArray, List.set_cons_zero, List.set_cons_succ]
                        refine wpAnyH_take (i := 3) (v := undef) rfl (by kernel_rfl) (by kernel_rfl) (by kernel_rfl) (fun _ _ _ h => (h : False).elim) (Or.inr ⟨by rfl, rfl⟩) (HBY1.out _ GA0.out) ?_
                        try simp only [Act.put, List.getElem_toArray, List.getElem_cons_zero, List.getElem_cons_succ, List.setIfInBounds_toArray, List.set_cons_zero, List.set_cons_succ]
                        refine wpAnyH_take (i := 4) (v := undef) rfl (by kernel_rfl) (by kernel_rfl) (by kernel_rfl) (fun _ _ _ h => (h : False).elim) (Or.inr ⟨by rfl, rfl⟩) (HBY1.out _ GA0.out) ?_
                        try simp only [Act.put, List.getElem_toArray, List.getElem_cons_zero, List.getElem_cons_succ, List.setIfInBounds_toArray, List.set_cons_zero, List.set_cons_succ]
                        refine wpAnyH_take (i := 5) (v := undef) rfl (by kernel_rfl) (by kernel_rfl) (by kernel_rfl) (fun _ _ _ h => (h : False).elim) (Or.inr ⟨by rfl, rfl⟩) (HBY1.out _ GA0.out) ?_
                        try simp only [Act.put, List.getElem_toArray, List.getElem_cons_zero, List.getElem_cons_succ, List.setIfInBounds_toArray, List.set_cons_zero, List.set_cons_succ]
                        refine wpAnyH_take (i := 6) (v := undef) rfl (by kernel_rfl) (by kernel_rfl) (by kernel_rfl) (fun _ _ _ h => (h : False).elim) (Or.inr ⟨by rfl, rfl⟩) (HBY1.out _ GA0.out) ?_
                        try simp only [Act.put, List.getElem_toArray, List.getElem_cons_zero, List.getElem_cons_succ, List.setIfInBounds_toArray, List.set_cons_zero, List.set_cons_succ]
                        refine wpAnyH_take (i := 7) (v := undef) rfl (by kernel_rfl) (by kernel_rfl) (by kernel_rfl) (fun _ _ _ h => (h : False).elim) (Or.inr ⟨by rfl, rfl⟩) (HBY1.out _ GA0.out) ?_
                        try simp only [Act.put, List.getElem_toArray, List.getElem_cons_zero, List.getElem_cons_succ, List.setIfInBounds_toArray, List.set_cons_zero, List.set_cons_succ]
                        refine wpAnyH_take (i := 8) (v := undef) rfl (by kernel_rfl) (by kernel_rfl) (by kernel_rfl) (fun _ _ _ h => (h : False).elim) (Or.inr ⟨by rfl, rfl⟩) (HBY1.out _ GA0.out) ?_
                        try simp only [Act.put, List.getElem_toArray, List.getElem_cons_zero, List.getElem_cons_succ, List.setIfInBounds_toArray, List.set_cons_zero, List.set_cons_succ]
                        refine wpAnyH_take (i := 9) (v := undef) rfl (by kernel_rfl) (by kernel_rfl) (by kernel_rfl) (fun _ _ _ h => (h : False).elim) (Or.inr ⟨by rfl, rfl⟩) (HBY1.out _ GA0.out) ?_
                        try simp only [Act.put, List.getElem_toArray, List.getElem_cons_zero, List.getElem_cons_succ, List.setIfInBounds_toArray, List.set_cons_zero, List.set_cons_succ]
                        refine wpAnyH_take (i := 10) (v := undef) rfl (by kernel_rfl) (by kernel_rfl) (by kernel_rfl) (fun _ _ _ h => (h : False).elim) (Or.inr ⟨by rfl, rfl⟩) (HBY1.out _ GA0.out) ?_
                        try simp only [Act.put, List.getElem_toArray, List.getElem_cons_zero, List.getElem_cons_succ, List.setIfInBounds_toArray, List.set_cons_zero, List.set_cons_succ]
                        refine wpAnyH_take (i := 11) (v := undef) rfl (by kernel_rfl) (by kernel_rfl) (by kernel_rfl) (fun _ _ _ h => (h : False).elim) (Or.inr ⟨by rfl, rfl⟩) (HBY1.out _ GA0.out) ?_
                        try simp only [Act.put, List.getElem_toArray, List.getElem_cons_zero, List.getElem_cons_succ, List.setIfInBounds_toArray, List.set_cons_zero, List.set_cons_succ]
                        refine wpAnyH_take (i := 12) (v := undef) rfl (by kernel_rfl) (by kernel_rfl) (by kernel_rfl) (fun _ _ _ h => (h : False).elim) (Or.inr ⟨by rfl, rfl⟩) (HBY1.out _ GA0.out) ?_
                        try simp only [Act.put, List.getElem_toArray, List.getElem_cons_zero, List.getElem_cons_succ, List.setIfInBounds_toArray, List.set_cons_zero, List.set_cons_succ]
                        refine wpAnyH_take (i := 13) (v := undef) rfl (by kernel_rfl) (by kernel_rfl) (by kernel_rfl) (fun _ _ _ h => (h : False).elim) (Or.inr ⟨by rfl, rfl⟩) (HBY1.out _ GA0.out) ?_
                        try simp only [Act.put, List.getElem_toArray, List.getElem_cons_zero, List.getElem_cons_succ, List.setIfInBounds_toArray, List.set_cons_zero, List.set_cons_succ]
                        refine wpAnyH_take (i := 14) (v := .bool true) rfl (by kernel_rfl) (by kernel_rfl) (by kernel_rfl) (fun _ _ _ h => (h : False).elim) (Or.inl ⟨by rfl, ?_⟩) (HBY1.out _ GA0.out) ?_
                        · intro w hSw
                          obtain ⟨⟨⟨hs0, hs1, hs2⟩, hs3, hs4, hs5⟩, hs6, hs7, hs8⟩ := hSw
                          go_simp
                        try simp only [Act.put, List.getElem_toArray, List.getElem_cons_zero, List.getElem_cons_succ, List.setIfInBounds_toArray, List.set_cons_zero, List.set_cons_succ]
                        refine wpAnyH_take (i := 15) (v := .bool true) rfl (by kernel_rfl) (by kernel_rfl) (by kernel_rfl) (fun _ _ _ h => (h : False).elim) (Or.inl ⟨by rfl, ?_⟩) (HBY1.out _ GA0.out) ?_
                        · intro w hSw
                          obtain ⟨⟨⟨hs0, hs1, hs2⟩, hs3, hs4, hs5⟩, hs6, hs7, hs8⟩ := hSw
                          go_simp
                        try simp only [Act.put, List.getElem_toArray, List.getElem_cons_zero, List.getElem_cons_succ, List.setIfInBounds_toArray, List.set_cons_zero, List.set_cons_succ]
                        refine ⟨by kernel_rfl, ?_⟩
                        refine NoPanic.normal ?_
                        go_wp2_with fail
                        go_meet
                        exact ⟨rfl, GA0.out⟩
                      | false =>
                        rcases Nat.eq_zero_or_pos k with hk1 | hk1
                        · obtain rfl : kp = false := by rw [← HKP.out, hk1]; rfl
                          subst hk1
                          refine wp_region_noPanic ?_
                          refine wp_region_held_drew (S := fun W => (((W.cell? ⟨w.heap.size, 0, none⟩ = some (.int .i64 ka) ∧ W.cell? ⟨w.heap.size, 1, none⟩ = some (.string la) ∧ W.cell? ⟨w.heap.size, 2, none⟩ = some kva) ∧ W.cell? ⟨w.heap.size + 1, 0, none⟩ = some (.int .i64 kb) ∧ W.cell? ⟨w.heap.size + 1, 1, none⟩ = some (.string lb) ∧ W.cell? ⟨w.heap.size + 1, 2, none⟩ = some kvb) ∧ (W.cell? ⟨w7.heap.size, 0, none⟩ = some (.int .i64 4) ∧ W.cell? ⟨w7.heap.size, 1, none⟩ = some (.string ⟨#[]⟩) ∧ W.cell? ⟨w7.heap.size, 2, none⟩ = some (.slice (some ⟨w6.heap.size, 0, none⟩) 1 1)))) (by kernel_rfl) (HBY1.out _ GA0.out) (fun hHeld => ?_)
                          clear hHeld
                          refine wpAnyH_take (i := 0) (v := .bool false) rfl (by kernel_rfl) (by kernel_rfl) (by kernel_rfl) (fun _ _ _ h => (h : False).elim) (Or.inl ⟨by rfl, ?_⟩) (HBY1.out _ GA0.out) ?_
                          · intro w hSw
                            obtain ⟨⟨⟨hs0, hs1, hs2⟩, hs3, hs4, hs5⟩, hs6, hs7, hs8⟩ := hSw
                            go_simp
                          try simp only [Act.put, List.getElem_toArray, List.getElem_cons_zero, List.getElem_cons_succ, List.setIfInBounds_toArray, List.set_cons_zero, List.set_cons_succ]
                          refine wpAnyH_take (i := 1) (v := .bool false) rfl (by kernel_rfl) (by kernel_rfl) (by kernel_rfl) (fun _ _ _ h => (h : False).elim) (Or.inl ⟨by rfl, ?_⟩) (HBY1.out _ GA0.out) ?_
                          · intro w hSw
                            obtain ⟨⟨⟨hs0, hs1, hs2⟩, hs3, hs4, hs5⟩, hs6, hs7, hs8⟩ := hSw
                            go_simp
                          try simp only [Act.put, List.getElem_toArray, List.getElem_cons_zero, List.getElem_cons_succ, List.setIfInBounds_toArray, List.set_cons_zero, List.set_cons_succ]
                          refine wpAnyH_take (i := 2) (v := .int .i64 0) rfl (by kernel_rfl) (by kernel_rfl) (by kernel_rfl) (fun _ _ _ h => (h : False).elim) (Or.inl ⟨by rfl, ?_⟩) (HBY1.out _ GA0.out) ?_
                          · intro w hSw
                            obtain ⟨⟨⟨hs0, hs1, hs2⟩, hs3, hs4, hs5⟩, hs6, hs7, hs8⟩ := hSw
                            go_simp
                          try simp only [Act.put, List.getElem_toArray, List.getElem_cons_zero, List.getElem_cons_succ, List.setIfInBounds_toArray, List.set_cons_zero, List.set_cons_succ]
                          refine wpAnyH_take (i := 3) (v := .bool false) rfl (by kernel_rfl) (by kernel_rfl) (by kernel_rfl) (fun _ _ _ h => (h : False).elim) (Or.inl ⟨by rfl, ?_⟩) (HBY1.out _ GA0.out) ?_
                          · intro w hSw
                            obtain ⟨⟨⟨hs0, hs1, hs2⟩, hs3, hs4, hs5⟩, hs6, hs7, hs8⟩ := hSw
                            go_simp
                          try simp only [Act.put, List.getElem_toArray, List.getElem_cons_zero, List.getElem_cons_succ, List.setIfInBounds_toArray, List.set_cons_zero, List.set_cons_succ]
                          refine wpAnyH_take (i := 4) (v := .bool false) rfl (by kernel_rfl) (by kernel_rfl) (by kernel_rfl) (fun _ _ _ h => (h : False).elim) (Or.inl ⟨by rfl, ?_⟩) (HBY1.out _ GA0.out) ?_
                          · intro w hSw
                            obtain ⟨⟨⟨hs0, hs1, hs2⟩, hs3, hs4, hs5⟩, hs6, hs7, hs8⟩ := hSw
                            go_simp
                          try simp only [Act.put, List.getElem_toArray, List.getElem_cons_zero, List.getElem_cons_succ, List.setIfInBounds_toArray, List.set_cons_zero, List.set_cons_succ]
                          refine wpAnyH_take (i := 5) (v := undef) rfl (by kernel_rfl) (by kernel_rfl) (by kernel_rfl) (fun _ _ _ h => (h : False).elim) (Or.inr ⟨by rfl, rfl⟩) (HBY1.out _ GA0.out) ?_
                          try simp only [Act.put, List.getElem_toArray, List.getElem_cons_zero, List.getElem_cons_succ, List.setIfInBounds_toArray, List.set_cons_zero, List.set_cons_succ]
                          refine wpAnyH_take (i := 6) (v := .bool false) rfl (by kernel_rfl) (by kernel_rfl) (by kernel_rfl) (fun _ _ _ h => (h : False).elim) (Or.inl ⟨by rfl, ?_⟩) (HBY1.out _ GA0.out) ?_
                          · intro w hSw
                            obtain ⟨⟨⟨hs0, hs1, hs2⟩, hs3, hs4, hs5⟩, hs6, hs7, hs8⟩ := hSw
                            go_simp
                          try simp only [Act.put, List.getElem_toArray, List.getElem_cons_zero, List.getElem_cons_succ, List.setIfInBounds_toArray, List.set_cons_zero, List.set_cons_succ]
                          refine wpAnyH_take (i := 7) (v := .bool false) rfl (by kernel_rfl) (by kernel_rfl) (by kernel_rfl) (fun _ _ _ h => (h : False).elim) (Or.inl ⟨by rfl, ?_⟩) (HBY1.out _ GA0.out) ?_
                          · intro w hSw
                            obtain ⟨⟨⟨hs0, hs1, hs2⟩, hs3, hs4, hs5⟩, hs6, hs7, hs8⟩ := hSw
                            go_simp
                          try simp only [Act.put, List.getElem_toArray, List.getElem_cons_zero, List.getElem_cons_succ, List.setIfInBounds_toArray, List.set_cons_zero, List.set_cons_succ]
                          refine wpAnyH_take (i := 8) (v := undef) rfl (by kernel_rfl) (by kernel_rfl) (by kernel_rfl) (fun _ _ _ h => (h : False).elim) (Or.inr ⟨by rfl, rfl⟩) (HBY1.out _ GA0.out) ?_
                          try simp only [Act.put, List.getElem_toArray, List.getElem_cons_zero, List.getElem_cons_succ, List.setIfInBounds_toArray, List.set_cons_zero, List.set_cons_succ]
                          refine wpAnyH_take (i := 9) (v := undef) rfl (by kernel_rfl) (by kernel_rfl) (by kernel_rfl) (fun _ _ _ h => (h : False).elim) (Or.inr ⟨by rfl, rfl⟩) (HBY1.out _ GA0.out) ?_
                          try simp only [Act.put, List.getElem_toArray, List.getElem_cons_zero, List.getElem_cons_succ, List.setIfInBounds_toArray, List.set_cons_zero, List.set_cons_succ]
                          refine wpAnyH_take (i := 10) (v := undef) rfl (by kernel_rfl) (by kernel_rfl) (by kernel_rfl) (fun _ _ _ h => (h : False).elim) (Or.inr ⟨by rfl, rfl⟩) (HBY1.out _ GA0.out) ?_
                          try simp only [Act.put, List.getElem_toArray, List.getElem_cons_zero, List.getElem_cons_succ, List.setIfInBounds_toArray, List.set_cons_zero, List.set_cons_succ]
                          refine wpAnyH_take (i := 11) (v := undef) rfl (by kernel_rfl) (by kernel_rfl) (by kernel_rfl) (fun _ _ _ h => (h : False).elim) (Or.inr ⟨by rfl, rfl⟩) (HBY1.out _ GA0.out) ?_
                          try simp only [Act.put, List.getElem_toArray, List.getElem_cons_zero, List.getElem_cons_succ, List.setIfInBounds_toArray, List.set_cons_zero, List.set_cons_succ]
                          refine wpAnyH_take (i := 12) (v := undef) rfl (by kernel_rfl) (by kernel_rfl) (by kernel_rfl) (fun _ _ _ h => (h : False).elim) (Or.inr ⟨by rfl, rfl⟩) (HBY1.out _ GA0.out) ?_
                          try simp only [Act.put, List.getElem_toArray, List.getElem_cons_zero, List.getElem_cons_succ, List.setIfInBounds_toArray, List.set_cons_zero, List.set_cons_succ]
                          refine wpAnyH_take (i := 13) (v := .bool false) rfl (by kernel_rfl) (by kernel_rfl) (by kernel_rfl) (fun _ _ _ h => (h : False).elim) (Or.inl ⟨by rfl, ?_⟩) (HBY1.out _ GA0.out) ?_
                          · intro w hSw
                            obtain ⟨⟨⟨hs0, hs1, hs2⟩, hs3, hs4, hs5⟩, hs6, hs7, hs8⟩ := hSw
                            go_simp
                          try simp only [Act.put, List.getElem_toArray, List.getElem_cons_zero, List.getElem_cons_succ, List.setIfInBounds_toArray, List.set_cons_zero, List.set_cons_succ]
                          refine wpAnyH_take (i := 14) (v := .bool false) rfl (by kernel_rfl) (by kernel_rfl) (by kernel_rfl) (fun _ _ _ h => (h : False).elim) (Or.inl ⟨by rfl, ?_⟩) (HBY1.out _ GA0.out) ?_
                          · intro w hSw
                            obtain ⟨⟨⟨hs0, hs1, hs2⟩, hs3, hs4, hs5⟩, hs6, hs7, hs8⟩ := hSw
                            go_simp
                          try simp only [Act.put, List.getElem_toArray, List.getElem_cons_zero, List.getElem_cons_succ, List.setIfInBounds_toArray, List.set_cons_zero, List.set_cons_succ]
                          refine wpAnyH_take (i := 15) (v := .bool false) rfl (by kernel_rfl) (by kernel_rfl) (by kernel_rfl) (fun _ _ _ h => (h : False).elim) (Or.inl ⟨by rfl, ?_⟩) (HBY1.out _ GA0.out) ?_
                          · intro w hSw
                            obtain ⟨⟨⟨hs0, hs1, hs2⟩, hs3, hs4, hs5⟩, hs6, hs7, hs8⟩ := hSw
                            go_simp
                          try simp only [Act.put, List.getElem_toArray, List.getElem_cons_zero, List.getElem_cons_succ, List.setIfInBounds_toArray, List.set_cons_zero, List.set_cons_succ]
                          refine ⟨by kernel_rfl, ?_⟩
                          refine NoPanic.normal ?_
                          go_wp2_with fail
                          go_meet
                          exact ⟨rfl, GA0.out⟩
                        · have hk2 : (0 : Int) < (k : Int) := by omega
                          obtain rfl : kp = true := by rw [← HKP.out]; exact decide_eq_true hk1
                          cases fa with
                          | true =>
                            refine wp_region_noPanic ?_
                            refine wp_region_held_drew (S := fun W => (((W.cell? ⟨w.heap.size, 0, none⟩ = some (.int .i64 ka) ∧ W.cell? ⟨w.heap.size, 1, none⟩ = some (.string la) ∧ W.cell? ⟨w.heap.size, 2, none⟩ = some kva) ∧ W.cell? ⟨w.heap.size + 1, 0, none⟩ = some (.int .i64 kb) ∧ W.cell? ⟨w.heap.size + 1, 1, none⟩ = some (.string lb) ∧ W.cell? ⟨w.heap.size + 1, 2, none⟩ = some kvb) ∧ (W.cell? ⟨w7.heap.size, 0, none⟩ = some (.int .i64 4) ∧ W.cell? ⟨w7.heap.size, 1, none⟩ = some (.string ⟨#[]⟩) ∧ W.cell? ⟨w7.heap.size, 2, none⟩ = some (.slice (some ⟨w6.heap.size, 0, none⟩) 1 1)))) (by kernel_rfl) (HBY1.out _ GA0.out) (fun hHeld => ?_)
                            clear hHeld
                            refine wpAnyH_take (i := 0) (v := .bool false) rfl (by kernel_rfl) (by kernel_rfl) (by kernel_rfl) (fun _ _ _ h => (h : False).elim) (Or.inl ⟨by rfl, ?_⟩) (HBY1.out _ GA0.out) ?_
                            · intro w hSw
                              obtain ⟨⟨⟨hs0, hs1, hs2⟩, hs3, hs4, hs5⟩, hs6, hs7, hs8⟩ := hSw
                              go_simp
                            try simp only [Act.put, List.getElem_toArray, List.getElem_cons_zero, List.getElem_cons_succ, List.setIfInBounds_toArray, List.set_cons_zero, List.set_cons_succ]
                            refine wpAnyH_take (i := 1) (v := .bool false) rfl (by kernel_rfl) (by kernel_rfl) (by kernel_rfl) (fun _ _ _ h => (h : False).elim) (Or.inl ⟨by rfl, ?_⟩) (HBY1.out _ GA0.out) ?_
                            · intro w hSw
                              obtain ⟨⟨⟨hs0, hs1, hs2⟩, hs3, hs4, hs5⟩, hs6, hs7, hs8⟩ := hSw
                              go_simp
                            try simp only [Act.put, List.getElem_toArray, List.getElem_cons_zero, List.getElem_cons_succ, List.setIfInBounds_toArray, List.set_cons_zero, List.set_cons_succ]
                            refine wpAnyH_take (i := 2) (v := .int .i64 k) rfl (by kernel_rfl) (by kernel_rfl) (by kernel_rfl) (fun _ _ _ h => (h : False).elim) (Or.inl ⟨by rfl, ?_⟩) (HBY1.out _ GA0.out) ?_
                            · intro w hSw
                              obtain ⟨⟨⟨hs0, hs1, hs2⟩, hs3, hs4, hs5⟩, hs6, hs7, hs8⟩ := hSw
                              go_simp
                            try simp only [Act.put, List.getElem_toArray, List.getElem_cons_zero, List.getElem_cons_succ, List.setIfInBounds_toArray, List.set_cons_zero, List.set_cons_succ]
                            refine wpAnyH_take (i := 3) (v := .bool true) rfl (by kernel_rfl) (by kernel_rfl) (by kernel_rfl) (fun _ _ _ h => (h : False).elim) (Or.inl ⟨by rfl, ?_⟩) (HBY1.out _ GA0.out) ?_
                            · intro w hSw
                              obtain ⟨⟨⟨hs0, hs1, hs2⟩, hs3, hs4, hs5⟩, hs6, hs7, hs8⟩ := hSw
                              go_simp
                            try simp only [Act.put, List.getElem_toArray, List.getElem_cons_zero, List.getElem_cons_succ, List.setIfInBounds_toArray, List.set_cons_zero, List.set_cons_succ]
                            refine wpAnyH_take (i := 4) (v := .bool true) rfl (by kernel_rfl) (by kernel_rfl) (by kernel_rfl) (fun _ _ _ h => (h : False).elim) (Or.inl ⟨by rfl, ?_⟩) (HBY1.out _ GA0.out) ?_
                            · intro w hSw
                              obtain ⟨⟨⟨hs0, hs1, hs2⟩, hs3, hs4, hs5⟩, hs6, hs7, hs8⟩ := hSw
                              go_simp
                            try simp only [Act.put, List.getElem_toArray, List.getElem_cons_zero, List.getElem_cons_succ, List.setIfInBounds_toArray, List.set_cons_zero, List.set_cons_succ]
                            refine wpAnyH_take (i := 5) (v := .bool true) rfl (by kernel_rfl) (by kernel_rfl) (by kernel_rfl) (fun _ _ _ h => (h : False).elim) (Or.inl ⟨by rfl, ?_⟩) (HBY1.out _ GA0.out) ?_
                            · intro w hSw
                              obtain ⟨⟨⟨hs0, hs1, hs2⟩, hs3, hs4, hs5⟩, hs6, hs7, hs8⟩ := hSw
                              go_simp
                            try simp only [Act.put, List.getElem_toArray, List.getElem_cons_zero, List.getElem_cons_succ, List.setIfInBounds_toArray, List.set_cons_zero, List.set_cons_succ]
                            refine wpAnyH_take (i := 6) (v := .bool true) rfl (by kernel_rfl) (by kernel_rfl) (by kernel_rfl) (fun _ _ _ h => (h : False).elim) (Or.inl ⟨by rfl, ?_⟩) (HBY1.out _ GA0.out) ?_
                            · intro w hSw
                              obtain ⟨⟨⟨hs0, hs1, hs2⟩, hs3, hs4, hs5⟩, hs6, hs7, hs8⟩ := hSw
                              go_simp
                            try simp only [Act.put, List.getElem_toArray, List.getElem_cons_zero, List.getElem_cons_succ, List.setIfInBounds_toArray, List.set_cons_zero, List.set_cons_succ]
                            refine wpAnyH_take (i := 7) (v := .bool true) rfl (by kernel_rfl) (by kernel_rfl) (by kernel_rfl) (fun _ _ _ h => (h : False).elim) (Or.inl ⟨by rfl, ?_⟩) (HBY1.out _ GA0.out) ?_
                            · intro w hSw
                              obtain ⟨⟨⟨hs0, hs1, hs2⟩, hs3, hs4, hs5⟩, hs6, hs7, hs8⟩ := hSw
                              go_simp
                            try simp only [Act.put, List.getElem_toArray, List.getElem_cons_zero, List.getElem_cons_succ, List.setIfInBounds_toArray, List.set_cons_zero, List.set_cons_succ]
                            refine wpAnyH_take (i := 8) (v := .agg #[.int .i64 4, .string ⟨#[]⟩, .slice (some ⟨w6.heap.size, 0, none⟩) 1 1]) rfl (by kernel_rfl) (by kernel_rfl) (by kernel_rfl) (fun _ _ _ h => (h : False).elim) (Or.inl ⟨by rfl, ?_⟩) (HBY1.out _ GA0.out) ?_
                            · intro w hSw
                              obtain ⟨⟨⟨hs0, hs1, hs2⟩, hs3, hs4, hs5⟩, hs6, hs7, hs8⟩ := hSw
                              go_simp
                            try simp only [Act.put, List.getElem_toArray, List.getElem_cons_zero, List.getElem_cons_succ, List.setIfInBounds_toArray, List.set_cons_zero, List.set_cons_succ]
                            refine wpAnyH_take (i := 9) (v := .slice A2 n c2) rfl (by kernel_rfl) (by kernel_rfl) (by kernel_rfl) (fun _ _ _ h => (h : False).elim) (Or.inl ⟨by rfl, ?_⟩) (HBY1.out _ GA0.out) ?_
                            · intro w hSw
                              obtain ⟨⟨⟨hs0, hs1, hs2⟩, hs3, hs4, hs5⟩, hs6, hs7, hs8⟩ := hSw
                              go_simp
                            try simp only [Act.put, List.getElem_toArray, List.getElem_cons_zero, List.getElem_cons_succ, List.setIfInBounds_toArray, List.set_cons_zero, List.set_cons_succ]
                            refine wpAnyH_take (i := 10) (v := .int .i64 k) rfl (by kernel_rfl) (by kernel_rfl) (by kernel_rfl) (fun _ _ _ h => (h : False).elim) (Or.inl ⟨by rfl, ?_⟩) (HBY1.out _ GA0.out) ?_
                            · intro w hSw
                              obtain ⟨⟨⟨hs0, hs1, hs2⟩, hs3, hs4, hs5⟩, hs6, hs7, hs8⟩ := hSw
                              go_simp
                            try simp only [Act.put, List.getElem_toArray, List.getElem_cons_zero, List.getElem_cons_succ, List.setIfInBounds_toArray, List.set_cons_zero, List.set_cons_succ]
                            refine wpAnyH_take (i := 11) (v := .slice (dropA A2 c2 k) (n - k : Nat) (c2 - k : Nat)) rfl (by kernel_rfl) (by kernel_rfl) (by kernel_rfl) (fun _ _ _ h => (h : False).elim) (Or.inl ⟨by rfl, ?_⟩) (HBY1.out _ GA0.out) ?_
                            · intro w hSw
                              obtain ⟨⟨⟨hs0, hs1, hs2⟩, hs3, hs4, hs5⟩, hs6, hs7, hs8⟩ := hSw
                              (unfold dropA; go_simp)
                            try simp only [Act.put, List.getElem_toArray, List.getElem_cons_zero, List.getElem_cons_succ, List.setIfInBounds_toArray, List.set_cons_zero, List.set_cons_succ]
                            refine wpAnyH_ready (rs := [12]) (by kernel_rfl) (by simp) ?_
                            refine AllReadyH.cons rfl (fun K hK => ?_) AllReadyH.nil
                            go_simp
                            refine (HTS.out _ GA0.out).mono ?_
                            rintro e x12 ⟨rfl, hq⟩
                            have GA12 := Lib.hid hq
                            clear hq
                            refine hK.out _ _ (HBY1.out _ GA12.out) (fun _ => ?_)
                            clear hK
                            try simp only [Act.put, List.getElem_toArray, List.getElem_cons_zero, List.getElem_cons_succ, List.setIfInBounds_toArray, List.set_cons_zero, List.set_cons_succ]
                            refine wpAnyH_take (i := 13) (v := .bool fs) rfl (by kernel_rfl) (by kernel_rfl) (by kernel_rfl) (fun _ _ _ h => (h : False).elim) (Or.inl ⟨by rfl, ?_⟩) (HBY1.out _ GA12.out) ?_
                            · intro w hSw
                              obtain ⟨⟨⟨hs0, hs1, hs2⟩, hs3, hs4, hs5⟩, hs6, hs7, hs8⟩ := hSw
                              go_simp
                            try simp only [Act.put, List.getElem_toArray, List.getElem_cons_zero, List.getElem_cons_succ, List.setIfInBounds_toArray, List.set_cons_zero, List.set_cons_succ]
                            refine wpAnyH_take (i := 14) (v := .bool fs) rfl (by kernel_rfl) (by kernel_rfl) (by kernel_rfl) (fun _ _ _ h => (h : False).elim) (Or.inl ⟨by rfl, ?_⟩) (HBY1.out _ GA12.out) ?_
                            · intro w hSw
                              obtain ⟨⟨⟨hs0, hs1, hs2⟩, hs3, hs4, hs5⟩, hs6, hs7, hs8⟩ := hSw
                              go_simp
                            try simp only [Act.put, List.getElem_toArray, List.getElem_cons_zero, List.getElem_cons_succ, List.setIfInBounds_toArray, List.set_cons_zero, List.set_cons_succ]
                            refine wpAnyH_take (i := 15) (v := .bool fs) rfl (by kernel_rfl) (by kernel_rfl) (by kernel_rfl) (fun _ _ _ h => (h : False).elim) (Or.inl ⟨by rfl, ?_⟩) (HBY1.out _ GA12.out) ?_
                            · intro w hSw
                              obtain ⟨⟨⟨hs0, hs1, hs2⟩, hs3, hs4, hs5⟩, hs6, hs7, hs8⟩ := hSw
                              go_simp
                            try simp only [Act.put, List.getElem_toArray, List.getElem_cons_zero, List.getElem_cons_succ, List.setIfInBounds_toArray, List.set_cons_zero, List.set_cons_succ]
                            refine ⟨by kernel_rfl, ?_⟩
                            refine NoPanic.normal ?_
                            go_wp2_with fail
                            go_meet
                            exact ⟨rfl, GA12.out⟩
                          | false =>
                            refine wp_region_noPanic ?_
                            refine wp_region_held_drew (S := fun W => (((W.cell? ⟨w.heap.size, 0, none⟩ = some (.int .i64 ka) ∧ W.cell? ⟨w.heap.size, 1, none⟩ = some (.string la) ∧ W.cell? ⟨w.heap.size, 2, none⟩ = some kva) ∧ W.cell? ⟨w.heap.size + 1, 0, none⟩ = some (.int .i64 kb) ∧ W.cell? ⟨w.heap.size + 1, 1, none⟩ = some (.string lb) ∧ W.cell? ⟨w.heap.size + 1, 2, none⟩ = some kvb) ∧ (W.cell? ⟨w7.heap.size, 0, none⟩ = some (.int .i64 4) ∧ W.cell? ⟨w7.heap.size, 1, none⟩ = some (.string ⟨#[]⟩) ∧ W.cell? ⟨w7.heap.size, 2, none⟩ = some (.slice (some ⟨w6.heap.size, 0, none⟩) 1 1)))) (by kernel_rfl) (HBY1.out _ GA0.out) (fun hHeld => ?_)
                            clear hHeld
                            refine wpAnyH_take (i := 0) (v := .bool false) rfl (by kernel_rfl) (by kernel_rfl) (by kernel_rfl) (fun _ _ _ h => (h : False).elim) (Or.inl ⟨by rfl, ?_⟩) (HBY1.out _ GA0.out) ?_
                            · intro w hSw
                              obtain ⟨⟨⟨hs0, hs1, hs2⟩, hs3, hs4, hs5⟩, hs6, hs7, hs8⟩ := hSw
                              go_simp
                            try simp only [Act.put, List.getElem_toArray, List.getElem_cons_zero, List.getElem_cons_succ, List.setIfInBounds_toArray, List.set_cons_zero, List.set_cons_succ]
                            refine wpAnyH_take (i := 1) (v := .bool false) rfl (by kernel_rfl) (by kernel_rfl) (by kernel_rfl) (fun _ _ _ h => (h : False).elim) (Or.inl ⟨by rfl, ?_⟩) (HBY1.out _ GA0.out) ?_
                            · intro w hSw
                              obtain ⟨⟨⟨hs0, hs1, hs2⟩, hs3, hs4, hs5⟩, hs6, hs7, hs8⟩ := hSw
                              go_simp
                            try simp only [Act.put, List.getElem_toArray, List.getElem_cons_zero, List.getElem_cons_succ, List.setIfInBounds_toArray, List.set_cons_zero, List.set_cons_succ]
                            refine wpAnyH_take (i := 2) (v := .int .i64 k) rfl (by kernel_rfl) (by kernel_rfl) (by kernel_rfl) (fun _ _ _ h => (h : False).elim) (Or.inl ⟨by rfl, ?_⟩) (HBY1.out _ GA0.out) ?_
                            · intro w hSw
                              obtain ⟨⟨⟨hs0, hs1, hs2⟩, hs3, hs4, hs5⟩, hs6, hs7, hs8⟩ := hSw
                              go_simp
                            try simp only [Act.put, List.getElem_toArray, List.getElem_cons_zero, List.getElem_cons_succ, List.setIfInBounds_toArray, List.set_cons_zero, List.set_cons_succ]
                            refine wpAnyH_take (i := 3) (v := .bool true) rfl (by kernel_rfl) (by kernel_rfl) (by kernel_rfl) (fun _ _ _ h => (h : False).elim) (Or.inl ⟨by rfl, ?_⟩) (HBY1.out _ GA0.out) ?_
                            · intro w hSw
                              obtain ⟨⟨⟨hs0, hs1, hs2⟩, hs3, hs4, hs5⟩, hs6, hs7, hs8⟩ := hSw
                              go_simp
                            try simp only [Act.put, List.getElem_toArray, List.getElem_cons_zero, List.getElem_cons_succ, List.setIfInBounds_toArray, List.set_cons_zero, List.set_cons_succ]
                            refine wpAnyH_take (i := 4) (v := .bool true) rfl (by kernel_rfl) (by kernel_rfl) (by kernel_rfl) (fun _ _ _ h => (h : False).elim) (Or.inl ⟨by rfl, ?_⟩) (HBY1.out _ GA0.out) ?_
                            · intro w hSw
                              obtain ⟨⟨⟨hs0, hs1, hs2⟩, hs3, hs4, hs5⟩, hs6, hs7, hs8⟩ := hSw
                              go_simp
                            try simp only [Act.put, List.getElem_toArray, List.getElem_cons_zero, List.getElem_cons_succ, List.setIfInBounds_toArray, List.set_cons_zero, List.set_cons_succ]
                            refine wpAnyH_take (i := 5) (v := .bool false) rfl (by kernel_rfl) (by kernel_rfl) (by kernel_rfl) (fun _ _ _ h => (h : False).elim) (Or.inl ⟨by rfl, ?_⟩) (HBY1.out _ GA0.out) ?_
                            · intro w hSw
                              obtain ⟨⟨⟨hs0, hs1, hs2⟩, hs3, hs4, hs5⟩, hs6, hs7, hs8⟩ := hSw
                              go_simp
                            try simp only [Act.put, List.getElem_toArray, List.getElem_cons_zero, List.getElem_cons_succ, List.setIfInBounds_toArray, List.set_cons_zero, List.set_cons_succ]
                            refine wpAnyH_take (i := 6) (v := .bool false) rfl (by kernel_rfl) (by kernel_rfl) (by kernel_rfl) (fun _ _ _ h => (h : False).elim) (Or.inl ⟨by rfl, ?_⟩) (HBY1.out _ GA0.out) ?_
                            · intro w hSw
                              obtain ⟨⟨⟨hs0, hs1, hs2⟩, hs3, hs4, hs5⟩, hs6, hs7, hs8⟩ := hSw
                              go_simp
                            try simp only [Act.put, List.getElem_toArray, List.getElem_cons_zero, List.getElem_cons_succ, List.setIfInBounds_toArray, List.set_cons_zero, List.set_cons_succ]
                            refine wpAnyH_take (i := 7) (v := .bool false) rfl (by kernel_rfl) (by kernel_rfl) (by kernel_rfl) (fun _ _ _ h => (h : False).elim) (Or.inl ⟨by rfl, ?_⟩) (HBY1.out _ GA0.out) ?_
                            · intro w hSw
                              obtain ⟨⟨⟨hs0, hs1, hs2⟩, hs3, hs4, hs5⟩, hs6, hs7, hs8⟩ := hSw
                              go_simp
                            try simp only [Act.put, List.getElem_toArray, List.getElem_cons_zero, List.getElem_cons_succ, List.setIfInBounds_toArray, List.set_cons_zero, List.set_cons_succ]
                            refine wpAnyH_take (i := 8) (v := undef) rfl (by kernel_rfl) (by kernel_rfl) (by kernel_rfl) (fun _ _ _ h => (h : False).elim) (Or.inr ⟨by rfl, rfl⟩) (HBY1.out _ GA0.out) ?_
                            try simp only [Act.put, List.getElem_toArray, List.getElem_cons_zero, List.getElem_cons_succ, List.setIfInBounds_toArray, List.set_cons_zero, List.set_cons_succ]
                            refine wpAnyH_take (i := 9) (v := undef) rfl (by kernel_rfl) (by kernel_rfl) (by kernel_rfl) (fun _ _ _ h => (h : False).elim) (Or.inr ⟨by rfl, rfl⟩) (HBY1.out _ GA0.out) ?_
                            try simp only [Act.put, List.getElem_toArray, List.getElem_cons_zero, List.getElem_cons_succ, List.setIfInBounds_toArray, List.set_cons_zero, List.set_cons_succ]
                            refine wpAnyH_take (i := 10) (v := undef) rfl (by kernel_rfl) (by kernel_rfl) (by kernel_rfl) (fun _ _ _ h => (h : False).elim) (Or.inr ⟨by rfl, rfl⟩) (HBY1.out _ GA0.out) ?_
                            try simp only [Act.put, List.getElem_toArray, List.getElem_cons_zero, List.getElem_cons_succ, List.setIfInBounds_toArray, List.set_cons_zero, List.set_cons_succ]
                            refine wpAnyH_take (i := 11) (v := undef) rfl (by kernel_rfl) (by kernel_rfl) (by kernel_rfl) (fun _ _ _ h => (h : False).elim) (Or.inr ⟨by rfl, rfl⟩) (HBY1.out _ GA0.out) ?_
                            try simp only [Act.put, List.getElem_toArray, List.getElem_cons_zero, List.getElem_cons_succ, List.setIfInBounds_toArray, List.set_cons_zero, List.set_cons_succ]
                            refine wpAnyH_take (i := 12) (v := undef) rfl (by kernel_rfl) (by kernel_rfl) (by kernel_rfl) (fun _ _ _ h => (h : False).elim) (Or.inr ⟨by rfl, rfl⟩) (HBY1.out _ GA0.out) ?_
                            try simp only [Act.put, List.getElem_toArray, List.getElem_cons_zero, List.getElem_cons_succ, List.setIfInBounds_toArray, List.set_cons_zero, List.set_cons_succ]
                            refine wpAnyH_take (i := 13) (v := .bool false) rfl (by kernel_rfl) (by kernel_rfl) (by kernel_rfl) (fun _ _ _ h => (h : False).elim) (Or.inl ⟨by rfl, ?_⟩) (HBY1.out _ GA0.out) ?_
                            · intro w hSw
                              obtain ⟨⟨⟨hs0, hs1, hs2⟩, hs3, hs4, hs5⟩, hs6, hs7, hs8⟩ := hSw
                              go_simp
                            try simp only [Act.put, List.getElem_toArray, List.getElem_cons_zero, List.getElem_cons_succ, List.setIfInBounds_toArray, List.set_cons_zero, List.set_cons_succ]
                            refine wpAnyH_take (i := 14) (v := .bool false) rfl (by kernel_rfl) (by kernel_rfl) (by kernel_rfl) (fun _ _ _ h => (h : False).elim) (Or.inl ⟨by rfl, ?_⟩) (HBY1.out _ GA0.out) ?_
                            · intro w hSw
                              obtain ⟨⟨⟨hs0, hs1, hs2⟩, hs3, hs4, hs5⟩, hs6, hs7, hs8⟩ := hSw
                              go_simp
                            try simp only [Act.put, List.getElem_toArray, List.getElem_cons_zero, List.getElem_cons_succ, List.setIfInBounds_toArray, List.set_cons_zero, List.set_cons_succ]
                            refine wpAnyH_take (i := 15) (v := .bool false) rfl (by kernel_rfl) (by kernel_rfl) (by kernel_rfl) (fun _ _ _ h => (h : False).elim) (Or.inl ⟨by rfl, ?_⟩) (HBY1.out _ GA0.out) ?_
                            · intro w hSw
                              obtain ⟨⟨⟨hs0, hs1, hs2⟩, hs3, hs4, hs5⟩, hs6, hs7, hs8⟩ := hSw
                              go_simp
                            try simp only [Act.put, List.getElem_toArray, List.getElem_cons_zero, List.getElem_cons_succ, List.setIfInBounds_toArray, List.set_cons_zero, List.set_cons_succ]
                            refine ⟨by kernel_rfl, ?_⟩
                            refine NoPanic.normal ?_
                            go_wp2_with fail
                            go_meet
                            exact ⟨rfl, GA0.out⟩
                    case rest =>
                      obtain ⟨rfl, hbC⟩ := hcut
                      have GC := Lib.hid hbC
                      clear hbC
                      go_upto_region 15 with (fail)
                      have GA0 := Lib.hid GC.out.drew
                      cases q10 with
                      | true =>
                        refine wp_region_noPanic ?_
                        refine wp_region_held_drew (S := fun W => (((W.cell? ⟨w.heap.size, 0, none⟩ = some (.int .i64 ka) ∧ W.cell? ⟨w.heap.size, 1, none⟩ = some (.string la) ∧ W.cell? ⟨w.heap.size, 2, none⟩ = some kva) ∧ W.cell? ⟨w.heap.size + 1, 0, none⟩ = some (.int .i64 kb) ∧ W.cell? ⟨w.heap.size + 1, 1, none⟩ = some (.string lb) ∧ W.cell? ⟨w.heap.size + 1, 2, none⟩ = some kvb) ∧ (W.cell? ⟨w7.heap.size, 0, none⟩ = some (.int .i64 4) ∧ W.cell? ⟨w7.heap.size, 1, none⟩ = some (.string ⟨#[]⟩) ∧ W.cell? ⟨w7.heap.size, 2, none⟩ = some (.slice (some ⟨w6.heap.size, 0, none⟩) 1 1)))) (by kernel_rfl) (HBY1.out _ GA0.out) (fun hHeld => ?_)
                        clear hHeld
                        refine wpAnyH_take (i := 0) (v := .bool true) rfl (by kernel_rfl) (by kernel_rfl) (by kernel_rfl) (fun _ _ _ h => (h : False).elim) (Or.inl ⟨by rfl, ?_⟩) (HBY1.out _ GA0.out) ?_
                        · intro w hSw
                          obtain ⟨⟨⟨hs0, hs1, hs2⟩, hs3, hs4, hs5⟩, hs6, hs7, hs8⟩ := hSw
                          go_simp
                        try simp only [Act.put, List.getElem_toArray, List.getElem_cons_zero, List.getElem_cons_succ, List.setIfInBounds_toArray, List.set_cons_zero, List.set_cons_succ]
                        refine wpAnyH_take (i := 1) (v := .bool true) rfl (by kernel_rfl) (by kernel_rfl) (by kernel_rfl) (fun _ _ _ h => (h : False).elim) (Or.inl ⟨by rfl, ?_⟩) (HBY1.out _ GA0.out) ?_
                        · intro w hSw
                          obtain ⟨⟨⟨hs0, hs1, hs2⟩, hs3, hs4, hs5⟩, hs6, hs7, hs8⟩ := hSw
                          go_simp
                        try simp only [Act.put, List.getElem_toArray, List.getElem_cons_zero, List.getElem_cons_succ, List.setIfInBounds_toArray, List.set_cons_zero, List.set_cons_succ]
                        refine wpAnyH_take (i := 2) (v := undef) rfl (by kernel_rfl) (by kernel_rfl) (by kernel_rfl) (fun _ _ _ h => (h : False).elim) (Or.inr ⟨by rfl, rfl⟩) (HBY1.out _ GA0.out) ?_
                        try simp only [Act.put, List.getElem_toArray, List.getElem_cons_zero, List.getElem_cons_succ, List.setIfInBounds_toArray, List.set_cons_zero, List.set_cons_succ]
                        refine wpAnyH_take (i := 3) (v := undef) rfl (by kernel_rfl) (by kernel_rfl) (by kernel_rfl) (fun _ _ _ h => (h : False).elim) (Or.inr ⟨by rfl, rfl⟩) (HBY1.out _ GA0.out) ?_
                        try simp only [Act.put, List.getElem_toArray, List.getElem_cons_zero, List.getElem_cons_succ, List.setIfInBounds_toArray, List.set_cons_zero, List.set_cons_succ]
                        refine wpAnyH_take (i := 4) (v := undef) rfl (by kernel_rfl) (by kernel_rfl) (by kernel_rfl) (fun _ _ _ h => (h : False).elim) (Or.inr ⟨by rfl, rfl⟩) (HBY1.out _ GA0.out) ?_
                        try simp only [Act.put, List.getElem_toArray, List.getElem_cons_zero, List.getElem_cons_succ, List.setIfInBounds_toArray, List.set_cons_zero, List.set_cons_succ]
                        refine wpAnyH_take (i := 5) (v := undef) rfl (by kernel_rfl) (by kernel_rfl) (by kernel_rfl) (fun _ _ _ h => (h : False).elim) (Or.inr ⟨by rfl, rfl⟩) (HBY1.out _ GA0.out) ?_
                        try simp only [Act.put, List.getElem_toArray, List.getElem_cons_zero, List.getElem_cons_succ, List.setIfInBounds_toArray, List.set_cons_zero, List.set_cons_succ]
                        refine wpAnyH_take (i := 6) (v := undef) rfl (by kernel_rfl) (by kernel_rfl) (by kernel_rfl) (fun _ _ _ h => (h : False).elim) (Or.inr ⟨by rfl, rfl⟩) (HBY1.out _ GA0.out) ?_
                        try simp only [Act.put, List.getElem_toArray, List.getElem_cons_zero, List.getElem_cons_succ, List.setIfInBounds_toArray, List.set_cons_zero, List.set_cons_succ]
                        refine wpAnyH_take (i := 7) (v := undef) rfl (by kernel_rfl) (by kernel_rfl) (by kernel_rfl) (fun _ _ _ h => (h : False).elim) (Or.inr ⟨by rfl, rfl⟩) (HBY1.out _ GA0.out) ?_
                        try simp only [Act.put, List.getElem_toArray, List.getElem_cons_zero, List.getElem_cons_succ, List.setIfInBounds_toArray, List.set_cons_zero, List.set_cons_succ]
                        refine wpAnyH_take (i := 8) (v := undef) rfl (by kernel_rfl) (by kernel_rfl) (by kernel_rfl) (fun _ _ _ h => (h : False).elim) (Or.inr ⟨by rfl, rfl⟩) (HBY1.out _ GA0.out) ?_
                        try simp only [Act.put, List.getElem_toArray, List.getElem_cons_zero, List.getElem_cons_succ, List.setIfInBounds_toArray, List.set_cons_zero, List.set_cons_succ]
                        refine wpAnyH_take (i := 9) (v := undef) rfl (by kernel_rfl) (by kernel_rfl) (by kernel_rfl) (fun _ _ _ h => (h : False).elim) (Or.inr ⟨by rfl, rfl⟩) (HBY1.out _ GA0.out) ?_
                        try simp only [Act.put, List.getElem_toArray, List.getElem_cons_zero, List.getElem_cons_succ, List.setIfInBounds_toArray, List.set_cons_zero, List.set_cons_succ]
                        refine wpAnyH_take (i := 10) (v := .bool true) rfl (by kernel_rfl) (by kernel_rfl) (by kernel_rfl) (fun _ _ _ h => (h : False).elim) (Or.inl ⟨by rfl, ?_⟩) (HBY1.out _ GA0.out) ?_
                        · intro w hSw
                          obtain ⟨⟨⟨hs0, hs1, hs2⟩, hs3, hs4, hs5⟩, hs6, hs7, hs8⟩ := hSw
                          go_simp
                        try simp only [Act.put, List.getElem_toArray, List.getElem_cons_zero, List.getElem_cons_succ, List.setIfInBounds_toArray, List.set_cons_zero, List.set_cons_succ]
                        refine wpAnyH_take (i := 11) (v := .bool true) rfl (by kernel_rfl) (by kernel_rfl) (by kernel_rfl) (fun _ _ _ h => (h : False).elim) (Or.inl ⟨by rfl, ?_⟩) (HBY1.out _ GA0.out) ?_
                        · intro w hSw
                          obtain ⟨⟨⟨hs0, hs1, hs2⟩, hs3, hs4, hs5⟩, hs6, hs7, hs8⟩ := hSw
                          go_simp
                        try simp only [Act.put, List.getElem_toArray, List.getElem_cons_zero, List.getElem_cons_succ, List.setIfInBounds_toArray, List.set_cons_zero, List.set_cons_succ]
                        refine ⟨by kernel_rfl, ?_⟩
                        refine NoPanic.normal ?_
                        go_wp2_with fail
                        go_roundw
                        case rel =>
                          exact ⟨k + 1, by omega, by go_num, by rw [HQ.out.1] <;> simp, by rw [HQ.out.2.1] <;> simp, by rw [HQ.out.2.2] <;> simp, GA0.out⟩
                        case measure => simp [intOf]; omega
                      | false =>
                        cases fa with
                        | true =>
                          refine wp_region_noPanic ?_
                          refine wp_region_held_drew (S := fun W => (((W.cell? ⟨w.heap.size, 0, none⟩ = some (.int .i64 ka) ∧ W.cell? ⟨w.heap.size, 1, none⟩ = some (.string la) ∧ W.cell? ⟨w.heap.size, 2, none⟩ = some kva) ∧ W.cell? ⟨w.heap.size + 1, 0, none⟩ = some (.int .i64 kb) ∧ W.cell? ⟨w.heap.size + 1, 1, none⟩ = some (.string lb) ∧ W.cell? ⟨w.heap.size + 1, 2, none⟩ = some kvb) ∧ (W.cell? ⟨w7.heap.size, 0, none⟩ = some (.int .i64 4) ∧ W.cell? ⟨w7.heap.size, 1, none⟩ = some (.string ⟨#[]⟩) ∧ W.cell? ⟨w7.heap.size, 2, none⟩ = some (.slice (some ⟨w6.heap.size, 0, none⟩) 1 1)))) (by kernel_rfl) (HBY1.out _ GA0.out) (fun hHeld => ?_)
                          clear hHeld
                          refine wpAnyH_take (i := 0) (v := .bool false) rfl (by kernel_rfl) (by kernel_rfl) (by kernel_rfl) (fun _ _ _ h => (h : False).elim) (Or.inl ⟨by rfl, ?_⟩) (HBY1.out _ GA0.out) ?_
                          · intro w hSw
                            obtain ⟨⟨⟨hs0, hs1, hs2⟩, hs3, hs4, hs5⟩, hs6, hs7, hs8⟩ := hSw
                            go_simp
                          try simp only [Act.put, List.getElem_toArray, List.getElem_cons_zero, List.getElem_cons_succ, List.setIfInBounds_toArray, List.set_cons_zero, List.set_cons_succ]
                          refine wpAnyH_take (i := 1) (v := .bool false) rfl (by kernel_rfl) (by kernel_rfl) (by kernel_rfl) (fun _ _ _ h => (h : False).elim) (Or.inl ⟨by rfl, ?_⟩) (HBY1.out _ GA0.out) ?_
                          · intro w hSw
                            obtain ⟨⟨⟨hs0, hs1, hs2⟩, hs3, hs4, hs5⟩, hs6, hs7, hs8⟩ := hSw
                            go_simp
                          try simp only [Act.put, List.getElem_toArray, List.getElem_cons_zero, List.getElem_cons_succ, List.setIfInBounds_toArray, List.set_cons_zero, List.set_cons_succ]
                          refine wpAnyH_take (i := 2) (v := .bool true) rfl (by kernel_rfl) (by kernel_rfl) (by kernel_rfl) (fun _ _ _ h => (h : False).elim) (Or.inl ⟨by rfl, ?_⟩) (HBY1.out _ GA0.out) ?_
                          · intro w hSw
                            obtain ⟨⟨⟨hs0, hs1, hs2⟩, hs3, hs4, hs5⟩, hs6, hs7, hs8⟩ := hSw
                            go_simp
                          try simp only [Act.put, List.getElem_toArray, List.getElem_cons_zero, List.getElem_cons_succ, List.setIfInBounds_toArray, List.set_cons_zero, List.set_cons_succ]
                          refine wpAnyH_take (i := 3) (v := .bool true) rfl (by kernel_rfl) (by kernel_rfl) (by kernel_rfl) (fun _ _ _ h => (h : False).elim) (Or.inl ⟨by rfl, ?_⟩) (HBY1.out _ GA0.out) ?_
                          · intro w hSw
                            obtain ⟨⟨⟨hs0, hs1, hs2⟩, hs3, hs4, hs5⟩, hs6, hs7, hs8⟩ := hSw
                            go_simp
                          try simp only [Act.put, List.getElem_toArray, List.getElem_cons_zero, List.getElem_cons_succ, List.setIfInBounds_toArray, List.set_cons_zero, List.set_cons_succ]
                          refine wpAnyH_take (i := 4) (v := .agg #[.int .i64 4, .string ⟨#[]⟩, .slice (some ⟨w6.heap.size, 0, none⟩) 1 1]) rfl (by kernel_rfl) (by kernel_rfl) (by kernel_rfl) (fun _ _ _ h => (h : False).elim) (Or.inl ⟨by rfl, ?_⟩) (HBY1.out _ GA0.out) ?_
                          · intro w hSw
                            obtain ⟨⟨⟨hs0, hs1, hs2⟩, hs3, hs4, hs5⟩, hs6, hs7, hs8⟩ := hSw
                            go_simp
                          try simp only [Act.put, List.getElem_toArray, List.getElem_cons_zero, List.getElem_cons_succ, List.setIfInBounds_toArray, List.set_cons_zero, List.set_cons_succ]
                          refine wpAnyH_take (i := 5) (v := .slice A2 n c2) rfl (by kernel_rfl) (by kernel_rfl) (by kernel_rfl) (fun _ _ _ h => (h : False).elim) (Or.inl ⟨by rfl, ?_⟩) (HBY1.out _ GA0.out) ?_
                          · intro w hSw
                            obtain ⟨⟨⟨hs0, hs1, hs2⟩, hs3, hs4, hs5⟩, hs6, hs7, hs8⟩ := hSw
                            go_simp
                          try simp only [Act.put, List.getElem_toArray, List.getElem_cons_zero, List.getElem_cons_succ, List.setIfInBounds_toArray, List.set_cons_zero, List.set_cons_succ]
                          refine wpAnyH_take (i := 6) (v := .int .i64 k) rfl (by kernel_rfl) (by kernel_rfl) (by kernel_rfl) (fun _ _ _ h => (h : False).elim) (Or.inl ⟨by rfl, ?_⟩) (HBY1.out _ GA0.out) ?_
                          · intro w hSw
                            obtain ⟨⟨⟨hs0, hs1, hs2⟩, hs3, hs4, hs5⟩, hs6, hs7, hs8⟩ := hSw
                            go_simp
                          try simp only [Act.put, List.getElem_toArray, List.getElem_cons_zero, List.getElem_cons_succ, List.setIfInBounds_toArray, List.set_cons_zero, List.set_cons_succ]
                          refine wpAnyH_take (i := 7) (v := .slice (dropA A2 c2 k) (n - k : Nat) (c2 - k : Nat)) rfl (by kernel_rfl) (by kernel_rfl) (by kernel_rfl) (fun _ _ _ h => (h : False).elim) (Or.inl ⟨by rfl, ?_⟩) (HBY1.out _ GA0.out) ?_
                          · intro w hSw
                            obtain ⟨⟨⟨hs0, hs1, hs2⟩, hs3, hs4, hs5⟩, hs6, hs7, hs8⟩ := hSw
                            (unfold dropA; go_simp)
                          try simp only [Act.put, List.getElem_toArray, List.getElem_cons_zero, List.getElem_cons_succ, List.setIfInBounds_toArray, List.set_cons_zero, List.set_cons_succ]
                          refine wpAnyH_ready (rs := [8]) (by kernel_rfl) (by simp) ?_
                          refine AllReadyH.cons rfl (fun K hK => ?_) AllReadyH.nil
                          go_simp
                          refine (HTS.out _ GA0.out).mono ?_
                          rintro e x8 ⟨rfl, hq⟩
                          have GA8 := Lib.hid hq
                          clear hq
                          refine hK.out _ _ (HBY1.out _ GA8.out) (fun _ => ?_)
                          clear hK
                          try simp only [Act.put, List.getElem_toArray, List.getElem_cons_zero, List.getElem_cons_succ, List.setIfInBounds_toArray, List.set_cons_zero, List.set_cons_succ]
                          refine wpAnyH_take (i := 9) (v := .bool fs) rfl (by kernel_rfl) (by kernel_rfl) (by kernel_rfl) (fun _ _ _ h => (h : False).elim) (Or.inl ⟨by rfl, ?_⟩) (HBY1.out _ GA8.out) ?_
                          · intro w hSw
                            obtain ⟨⟨⟨hs0, hs1, hs2⟩, hs3, hs4, hs5⟩, hs6, hs7, hs8⟩ := hSw
                            go_simp
                          try simp only [Act.put, List.getElem_toArray, List.getElem_cons_zero, List.getElem_cons_succ, List.setIfInBounds_toArray, List.set_cons_zero, List.set_cons_succ]
                          refine wpAnyH_take (i := 10) (v := .bool fs) rfl (by kernel_rfl) (by kernel_rfl) (by kernel_rfl) (fun _ _ _ h => (h : False).elim) (Or.inl ⟨by rfl, ?_⟩) (HBY1.out _ GA8.out) ?_
                          · intro w hSw
                            obtain ⟨⟨⟨hs0, hs1, hs2⟩, hs3, hs4, hs5⟩, hs6, hs7, hs8⟩ := hSw
                            go_simp
                          try simp only [Act.put, List.getElem_toArray, List.getElem_cons_zero, List.getElem_cons_succ, List.setIfInBounds_toArray, List.set_cons_zero, List.set_cons_succ]
                          refine wpAnyH_take (i := 11) (v := .bool fs) rfl (by kernel_rfl) (by kernel_rfl) (by kernel_rfl) (fun _ _ _ h => (h : False).elim) (Or.inl ⟨by rfl, ?_⟩) (HBY1.out _ GA8.out) ?_
                          · intro w hSw
                            obtain ⟨⟨⟨hs0, hs1, hs2⟩, hs3, hs4, hs5⟩, hs6, hs7, hs8⟩ := hSw
                            go_simp
                          try simp only [Act.put, List.getElem_toArray, List.getElem_cons_zero, List.getElem_cons_succ, List.setIfInBounds_toArray, List.set_cons_zero, List.set_cons_succ]
                          refine ⟨by kernel_rfl, ?_⟩
                          refine NoPanic.normal ?_
                          go_wp2_with fail
                          go_roundw
                          case rel =>
                            exact ⟨k + 1, by omega, by go_num, by rw [HQ.out.1] <;> simp, by rw [HQ.out.2.1] <;> simp, by rw [HQ.out.2.2] <;> simp, GA8.out⟩
                          case measure => simp [intOf]; omega
                        | false =>
                          refine wp_region_noPanic ?_
                          refine wp_region_held_drew (S := fun W => (((W.cell? ⟨w.heap.size, 0, none⟩ = some (.int .i64 ka) ∧ W.cell? ⟨w.heap.size, 1, none⟩ = some (.string la) ∧ W.cell? ⟨w.heap.size, 2, none⟩ = some kva) ∧ W.cell? ⟨w.heap.size + 1, 0, none⟩ = some (.int .i64 kb) ∧ W.cell? ⟨w.heap.size + 1, 1, none⟩ = some (.string lb) ∧ W.cell? ⟨w.heap.size + 1, 2, none⟩ = some kvb) ∧ (W.cell? ⟨w7.heap.size, 0, none⟩ = some (.int .i64 4) ∧ W.cell? ⟨w7.heap.size, 1, none⟩ = some (.string ⟨#[]⟩) ∧ W.cell? ⟨w7.heap.size, 2, none⟩ = some (.slice (some ⟨w6.heap.size, 0, none⟩) 1 1)))) (by kernel_rfl) (HBY1.out _ GA0.out) (fun hHeld => ?_)
                          clear hHeld
                          refine wpAnyH_take (i := 0) (v := .bool false) rfl (by kernel_rfl) (by kernel_rfl) (by kernel_rfl) (fun _ _ _ h => (h : False).elim) (Or.inl ⟨by rfl, ?_⟩) (HBY1.out _ GA0.out) ?_
                          · intro w hSw
                            obtain ⟨⟨⟨hs0, hs1, hs2⟩, hs3, hs4, hs5⟩, hs6, hs7, hs8⟩ := hSw
                            go_simp
                          try simp only [Act.put, List.getElem_toArray, List.getElem_cons_zero, List.getElem_cons_succ, List.setIfInBounds_toArray, List.set_cons_zero, List.set_cons_succ]
                          refine wpAnyH_take (i := 1) (v := .bool false) rfl (by kernel_rfl) (by kernel_rfl) (by kernel_rfl) (fun _ _ _ h => (h : False).elim) (Or.inl ⟨by rfl, ?_⟩) (HBY1.out _ GA0.out) ?_
                          · intro w hSw
                            obtain ⟨⟨⟨hs0, hs1, hs2⟩, hs3, hs4, hs5⟩, hs6, hs7, hs8⟩ := hSw
                            go_simp
                          try simp only [Act.put, List.getElem_toArray, List.getElem_cons_zero, List.getElem_cons_succ, List.setIfInBounds_toArray, List.set_cons_zero, List.set_cons_succ]
                          refine wpAnyH_take (i := 2) (v := .bool false) rfl (by kernel_rfl) (by kernel_rfl) (by kernel_rfl) (fun _ _ _ h => (h : False).elim) (Or.inl ⟨by rfl, ?_⟩) (HBY1.out _ GA0.out) ?_
                          · intro w hSw
                            obtain ⟨⟨⟨hs0, hs1, hs2⟩, hs3, hs4, hs5⟩, hs6, hs7, hs8⟩ := hSw
                            go_simp
                          try simp only [Act.put, List.getElem_toArray, List.getElem_cons_zero, List.getElem_cons_succ, List.setIfInBounds_toArray, List.set_cons_zero, List.set_cons_succ]
                          refine wpAnyH_take (i := 3) (v := .bool false) rfl (by kernel_rfl) (by kernel_rfl) (by kernel_rfl) (fun _ _ _ h => (h : False).elim) (Or.inl ⟨by rfl, ?_⟩) (HBY1.out _ GA0.out) ?_
                          · intro w hSw
                            obtain ⟨⟨⟨hs0, hs1, hs2⟩, hs3, hs4, hs5⟩, hs6, hs7, hs8⟩ := hSw
                            go_simp
                          try simp only [Act.put, List.getElem_toArray, List.getElem_cons_zero, List.getElem_cons_succ, List.setIfInBounds_toArray, List.set_cons_zero, List.set_cons_succ]
                          refine wpAnyH_take (i := 4) (v := undef) rfl (by kernel_rfl) (by kernel_rfl) (by kernel_rfl) (fun _ _ _ h => (h : False).elim) (Or.inr ⟨by rfl, rfl⟩) (HBY1.out _ GA0.out) ?_
                          try simp only [Act.put, List.getElem_toArray, List.getElem_cons_zero, List.getElem_cons_succ, List.setIfInBounds_toArray, List.set_cons_zero, List.set_cons_succ]
                          refine wpAnyH_take (i := 5) (v := undef) rfl (by kernel_rfl) (by kernel_rfl) (by kernel_rfl) (fun _ _ _ h => (h : False).elim) (Or.inr ⟨by rfl, rfl⟩) (HBY1.out _ GA0.out) ?_
                          try simp only [Act.put, List.getElem_toArray, List.getElem_cons_zero, List.getElem_cons_succ, List.setIfInBounds_toArray, List.set_cons_zero, List.set_cons_succ]
                          refine wpAnyH_take (i := 6) (v := undef) rfl (by kernel_rfl) (by kernel_rfl) (by kernel_rfl) (fun _ _ _ h => (h : False).elim) (Or.inr ⟨by rfl, rfl⟩) (HBY1.out _ GA0.out) ?_
                          try simp only [Act.put, List.getElem_toArray, List.getElem_cons_zero, List.getElem_cons_succ, List.setIfInBounds_toArray, List.set_cons_zero, List.set_cons_succ]
                          refine wpAnyH_take (i := 7) (v := undef) rfl (by kernel_rfl) (by kernel_rfl) (by kernel_rfl) (fun _ _ _ h => (h : False).elim) (Or.inr ⟨by rfl, rfl⟩) (HBY1.out _ GA0.out) ?_
                          try simp only [Act.put, List.getElem_toArray, List.getElem_cons_zero, List.getElem_cons_succ, List.setIfInBounds_toArray, List.set_cons_zero, List.set_cons_succ]
                          refine wpAnyH_take (i := 8) (v := undef) rfl (by kernel_rfl) (by kernel_rfl) (by kernel_rfl) (fun _ _ _ h => (h : False).elim) (Or.inr ⟨by rfl, rfl⟩) (HBY1.out _ GA0.out) ?_
                          try simp only [Act.put, List.getElem_toArray, List.getElem_cons_zero, List.getElem_cons_succ, List.setIfInBounds_toArray, List.set_cons_zero, List.set_cons_succ]
                          refine wpAnyH_take (i := 9) (v := .bool false) rfl (by kernel_rfl) (by kernel_rfl) (by kernel_rfl) (fun _ _ _ h => (h : False).elim) (Or.inl ⟨by rfl, ?_⟩) (HBY1.out _ GA0.out) ?_
                          · intro w hSw
                            obtain ⟨⟨⟨hs0, hs1, hs2⟩, hs3, hs4, hs5⟩, hs6, hs7, hs8⟩ := hSw
                            go_simp
                          try simp only [Act.put, List.getElem_toArray, List.getElem_cons_zero, List.getElem_cons_succ, List.setIfInBounds_toArray, List.set_cons_zero, List.set_cons_succ]
                          refine wpAnyH_take (i := 10) (v := .bool false) rfl (by kernel_rfl) (by kernel_rfl) (by kernel_rfl) (fun _ _ _ h => (h : False).elim) (Or.inl ⟨by rfl, ?_⟩) (HBY1.out _ GA0.out) ?_
                          · intro w hSw
                            obtain ⟨⟨⟨hs0, hs1, hs2⟩, hs3, hs4, hs5⟩, hs6, hs7, hs8⟩ := hSw
                            go_simp
                          try simp only [Act.put, List.getElem_toArray, List.getElem_cons_zero, List.getElem_cons_succ, List.setIfInBounds_toArray, List.set_cons_zero, List.set_cons_succ]
                          refine wpAnyH_take (i := 11) (v := .bool false) rfl (by kernel_rfl) (by kernel_rfl) (by kernel_rfl) (fun _ _ _ h => (h : False).elim) (Or.inl ⟨by rfl, ?_⟩) (HBY1.out _ GA0.out) ?_
                          · intro w hSw
                            obtain ⟨⟨⟨hs0, hs1, hs2⟩, hs3, hs4, hs5⟩, hs6, hs7, hs8⟩ := hSw
                            go_simp
                          try simp only [Act.put, List.getElem_toArray, List.getElem_cons_zero, List.getElem_cons_succ, List.setIfInBounds_toArray, List.set_cons_zero, List.set_cons_succ]
                          refine ⟨by kernel_rfl, ?_⟩
                          refine NoPanic.normal ?_
                          go_wp2_with fail
                          go_roundw
                          case rel =>
                            exact ⟨k + 1, by omega, by go_num, by rw [HQ.out.1] <;> simp, by rw [HQ.out.2.1] <;> simp, by rw [HQ.out.2.2] <;> simp, GA0.out⟩
                          case measure => simp [intOf]; omega
                · obtain rfl : k = n + 1 := by omega
                  have hki : ¬ ((n + 1 : Nat) : Int) ≤ (n : Int) := by omega
                  have HV1 := Lib.hid (show takesB (ofX 2 [a, b]) word = orN fS (n + 1) by have h1 := takes_seq HRE.out.1 HRE.out.2 hsa hsb word; rw [HN.out] at h1; rw [h1, HF.out.1])
                  have HV2 := Lib.hid (show takesB (ofX 4 [a]) word = (decide (n = 0) || orN fM (n + 1)) by have h1 := takes_star HRE.out.1 hsa word; rw [HN.out] at h1; rw [h1, HF.out.2.1])
                  have HV3 := Lib.hid (show takesB (ofX 5 [a]) word = orN fP (n + 1) by have h1 := takes_plus HRE.out.1 hsa word; rw [HN.out] at h1; rw [h1, HF.out.2.2])
                  have HLA2 := Lib.hid (lit_of (k := 2) (ks := [a, b]) (fun y hy => by
                    rcases List.mem_cons.1 hy with rfl | hy
                    · exact HLA.out.1
                    · rw [List.mem_singleton] at hy; subst hy; exact HLA.out.2))
                  generalize hq8 : orN fS (n + 1) = vS at *
                  generalize hq9 : (decide (n = 0) || orN fM (n + 1)) = vM at *
                  generalize hq10 : orN fP (n + 1) = vP at *
                  clear hq8 hq9 hq10
                  obtain ⟨⟨⟨d0, d1, d2⟩, d3, d4, d5⟩, d6, d7, d8⟩ := HBY1.out _ HBR.out
                  go_wp2_with (first
                    | (go_at_call 29; first
                      | (refine (of_any _ _ _ _ _).mono ?_; rintro e z5 ⟨rfl, hq⟩; have E3 := Lib.hid (lit_step E2.out hq); have X5 := Lib.hid (XV.of1 (k := 5) HXA1.out E2.out E2.out.size (lit_below hq)); obtain ⟨⟨⟨d0, d1, d2⟩, d3, d4, d5⟩, d6, d7, d8⟩ := HBY1.out _ E3.out; clear hq)
                      | (refine (of_any _ _ _ _ _).mono ?_; rintro e z1 ⟨rfl, hq⟩; have E0 := Lib.hid (lit_step HBR.out hq); have X2 := Lib.hid (XV.of2 (k := 2) HXA1.out HXB1.out HBR.out HBR.out.size (lit_below hq)); obtain ⟨⟨⟨d0, d1, d2⟩, d3, d4, d5⟩, d6, d7, d8⟩ := HBY1.out _ E0.out; clear hq))
                    | (go_at_call 20; first
                      | (refine (HTX.out _ _ _ _ X5.out E3.out (by rw [ofX_sz, szL_one]; omega) (HLAO.out _) HV3.out).mono ?_; rintro e z6 ⟨rfl, hq⟩; have E4 := Lib.hid hq; clear hq)
                      | (refine (HTX.out _ _ _ _ ((HST.out.bel E1.out).mono E1.out.size) E1.out (by rw [ofX_sz, szL_one]; omega) (HLAO.out _) HV2.out).mono ?_; rintro e z3 ⟨rfl, hq⟩; have E2 := Lib.hid hq; obtain ⟨⟨⟨d0, d1, d2⟩, d3, d4, d5⟩, d6, d7, d8⟩ := HBY1.out _ hq; clear hq)
                      | (refine (HTX.out _ _ _ _ X2.out E0.out (by rw [ofX_sz, szL_two]; omega) HLA2.out HV1.out).mono ?_; rintro e z2 ⟨rfl, hq⟩; have E1 := Lib.hid hq; obtain ⟨⟨⟨d0, d1, d2⟩, d3, d4, d5⟩, d6, d7, d8⟩ := HBY1.out _ hq; clear hq)))
                  go_ret
                  exact ⟨by simp, HB0.out.trans ((HB1.out.trans (E4.out.mono HB1.out.size)).mono HB0.out.size)⟩
          · have i1 : ¬ ((11 : Int) < (a.sz : Int)) := by omega
            have i2 : (11 : Int) < (b.sz : Int) := by omega
            go_enter Try.func5, Try.ntmps5
            go_upto_region 1 with (fail)
            try rw [hW0]
            go_wp2_with (first
              | (go_at_call 8; refine (H8.out _ HREFL.out).mono ?_; rintro e w1 ⟨rfl, h1⟩; have H1 := Lib.hid h1; obtain ⟨⟨d0, d1, d2⟩, d3, d4, d5⟩ := HBX.out _ h1; clear h1)
              | (go_at_call 7; refine (HGR.out _ H1.out).mono ?_; rintro e w2 ⟨rfl, h2⟩; have H2 := Lib.hid h2; obtain ⟨⟨d0, d1, d2⟩, d3, d4, d5⟩ := HBX.out _ h2; clear h2)
              | (go_at_call 12; first | (refine (HRB.out _ H3.out).mono ?_; rintro e w4 ⟨rfl, h4⟩; have H4 := Lib.hid h4; obtain ⟨⟨d0, d1, d2⟩, d3, d4, d5⟩ := HBX.out _ h4; clear h4) | (refine (HRA.out _ H2.out).mono ?_; rintro e w3 ⟨rfl, h3⟩; have H3 := Lib.hid h3; obtain ⟨⟨d0, d1, d2⟩, d3, d4, d5⟩ := HBX.out _ h3; clear h3))
              | (go_at_call 14; first | (refine (HSB.out _ H5.out).mono ?_; rintro e w6 ⟨rfl, h6⟩; have H6 := Lib.hid h6; obtain ⟨⟨d0, d1, d2⟩, d3, d4, d5⟩ := HBX.out _ h6; clear h6) | (refine (HSA.out _ H4.out).mono ?_; rintro e w5 ⟨rfl, h5⟩; have H5 := Lib.hid h5; obtain ⟨⟨d0, d1, d2⟩, d3, d4, d5⟩ := HBX.out _ h5; clear h5)))
            go_ret
            exact ⟨rfl, HB0.out.trans (H6.out.mono HB0.out.size)⟩
        · have i1 : (11 : Int) < (a.sz : Int) := by omega
          go_enter Try.func5, Try.ntmps5
          go_upto_region 1 with (fail)
          try rw [hW0]
          go_wp2_with (first
            | (go_at_call 8; refine (H8.out _ HREFL.out).mono ?_; rintro e w1 ⟨rfl, h1⟩; have H1 := Lib.hid h1; obtain ⟨⟨d0, d1, d2⟩, d3, d4, d5⟩ := HBX.out _ h1; clear h1)
            | (go_at_call 7; refine (HGR.out _ H1.out).mono ?_; rintro e w2 ⟨rfl, h2⟩; have H2 := Lib.hid h2; obtain ⟨⟨d0, d1, d2⟩, d3, d4, d5⟩ := HBX.out _ h2; clear h2)
            | (go_at_call 12; first | (refine (HRB.out _ H3.out).mono ?_; rintro e w4 ⟨rfl, h4⟩; have H4 := Lib.hid h4; obtain ⟨⟨d0, d1, d2⟩, d3, d4, d5⟩ := HBX.out _ h4; clear h4) | (refine (HRA.out _ H2.out).mono ?_; rintro e w3 ⟨rfl, h3⟩; have H3 := Lib.hid h3; obtain ⟨⟨d0, d1, d2⟩, d3, d4, d5⟩ := HBX.out _ h3; clear h3))
            | (go_at_call 14; first | (refine (HSB.out _ H5.out).mono ?_; rintro e w6 ⟨rfl, h6⟩; have H6 := Lib.hid h6; obtain ⟨⟨d0, d1, d2⟩, d3, d4, d5⟩ := HBX.out _ h6; clear h6) | (refine (HSA.out _ H4.out).mono ?_; rintro e w5 ⟨rfl, h5⟩; have H5 := Lib.hid h5; obtain ⟨⟨d0, d1, d2⟩, d3, d4, d5⟩ := HBX.out _ h5; clear h5)))
          go_ret
          exact ⟨rfl, HB0.out.trans (H5.out.mono HB0.out.size)⟩
end Go.Proofs.Ytnohnkhhkeikoaa
