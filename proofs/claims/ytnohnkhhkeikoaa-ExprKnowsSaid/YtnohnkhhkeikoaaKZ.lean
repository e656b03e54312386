/- ExprKnows: the whole. -/
import Derived.Test.YtnohnkhhkeikoaaK1
import Derived.Test.YtnohnkhhkeikoaaK2
import Derived.Test.YtnohnkhhkeikoaaK3
namespace Go.Proofs.Ytnohnkhhkeikoaa
open Go.ChangeShapes Go.WideShapes Go.ChangeAt Go.RowKit
set_option linter.unusedVariables false
set_option linter.unusedSimpArgs false

attribute [local go_sem] Oper.semAt_some

set_option maxRecDepth 100000 in
set_option maxHeartbeats 8000000 in
theorem knows_great {N M : Nat} {w : World} {va vb wv : Value} {a b : X} {word : Wd} (ha : XV N w va a) (hb : XV N w vb b) (hN : N ≤ w.heap.size) (hla : a.lit) (hlb : b.lit) (hw : SR M w wv word) (hM : M ≤ w.heap.size) (hcap : ∀ A m c, wv = .slice A m c → m ≤ c) (hns : 300 < gsum [a, b] 0 ∨ 30 < word.length) :
    Calls Try.prog 6 #[va, vb, wv] w fun e w' => e = .returned (.bool true) ∧ Below w.heap.size w w' := by
  obtain ⟨kva, rfl, hra⟩ := ha
  obtain ⟨kvb, rfl, hrb⟩ := hb
  obtain ⟨A2, c2, rfl, hw2⟩ := hw
  have hnc : word.length ≤ c2 := hcap _ _ _ rfl
  clear hcap
  obtain ⟨n, hn⟩ : ∃ n, word.length = n := ⟨_, rfl⟩
  generalize hka : a.kind = ka at *
  generalize hkl : a.lab = la at *
  generalize hkb : b.kind = kb at *
  generalize hkl2 : b.lab = lb at *
  obtain ⟨W0, hW0⟩ : ∃ W0, (w.alloc (.cells #[.int .i64 ka, .string la, kva] 25)).alloc (.cells #[.int .i64 kb, .string lb, kvb] 25) = W0 := ⟨_, rfl⟩
  have hz0 : W0.heap.size = w.heap.size + 2 := by rw [← hW0]; simp
  have hb0 : Below w.heap.size w W0 := by rw [← hW0]; exact ((Below.refl _ w).alloc (Nat.le_refl _) _).alloc (by simp) _
  have hc3 : W0.heap[w.heap.size]? = some (.cells #[.int .i64 ka, .string la, kva] 25) := by rw [← hW0, Below.heap_alloc _ _ _ (by simp)]; exact at_push _ _
  have hc4 : W0.heap[w.heap.size + 1]? = some (.cells #[.int .i64 kb, .string lb, kvb] 25) := by
    rw [← hW0]
    have := at_push (w.alloc (.cells #[.int .i64 ka, .string la, kva] 25)) (.cells #[.int .i64 kb, .string lb, kvb] 25)
    rwa [World.size_alloc] at this
  have hxa : XV W0.heap.size W0 (.agg #[.int .i64 ka, .string la, kva]) a := (XV.bel ⟨kva, by rw [hka, hkl], hra⟩ (hb0.mono hN)).mono (by omega)
  have hxb : XV W0.heap.size W0 (.agg #[.int .i64 kb, .string lb, kvb]) b := (XV.bel ⟨kvb, by rw [hkb, hkl2], hrb⟩ (hb0.mono hN)).mono (by omega)
  have hsr : SR M W0 (.slice A2 n c2) word := SR.bel ⟨A2, c2, by rw [hn], hw2⟩ (hb0.mono hM)
  have hMs : M ≤ W0.heap.size := by omega
  have HB0 := Lib.hid hb0
  have HZ := Lib.hid hz0
  have HBX := Lib.hid (fun W (h : Below W0.heap.size W0 W) => And.intro (box3 ((h.block _ (by omega)).trans hc3)) (box3 ((h.block _ (by omega)).trans hc4)))
  have HXA := Lib.hid hxa
  have HXB := Lib.hid hxb
  have HSR := Lib.hid (And.intro hsr hMs)
  have HLA := Lib.hid (And.intro hla hlb)
  have HN := Lib.hid hn
  obtain ⟨gr, hgr⟩ : ∃ gr : Bool, gr = decide (300 < gsum [a, b] 0 ∨ 30 < n) := ⟨_, rfl⟩
  have HGE := Lib.hid hgr
  have HGR := Lib.hid (fun (W : World) (h : Below W0.heap.size W0 W) =>
    (show Calls Try.prog 7 #[.slice A2 n c2, .slice (some ⟨W.heap.size, 0, none⟩) 2 2] (W.alloc (.cells #[.int .i64 ka, .string la, kva, .int .i64 kb, .string lb, kvb] 25)) (fun e w' => e = .returned (.bool gr) ∧ Below W0.heap.size W0 w') by
      have hb1 : Below (W.heap.size + 1) (W.alloc (.cells #[.int .i64 ka, .string la, kva, .int .i64 kb, .string lb, kvb] 25)) (W.alloc (.cells #[.int .i64 ka, .string la, kva, .int .i64 kb, .string lb, kvb] 25)) := Below.refl _ _
      obtain ⟨kv, e, hr⟩ := XV.of2 (k := 3) hxa hxb h h.size hb1
      injection e with e
      injection e with e
      injection e with _ e
      injection e with _ e
      injection e with e _
      subst e
      refine (great_any hr (Nat.le_refl _) A2 n c2).mono ?_
      rintro e w1 ⟨rfl, h1⟩
      refine ⟨by rw [hgr]; rfl, h.trans ((((Below.refl _ W).alloc (Nat.le_refl _) _).trans (h1.below.mono (by simp))).mono h.size)⟩))
  have H8 := Lib.hid (fun (W : World) (h : Below W0.heap.size W0 W) => calls_base (awake_any W) h)
  have hszs : gr = false → a.sz + b.sz ≤ 300 ∧ n ≤ 30 := fun h => by
    rw [hgr] at h
    have h1 := of_decide_eq_false h
    have h2 := gsum_eq (xs := [a, b]) (by omega)
    rw [szL_two] at h2
    exact ⟨h2, by omega⟩
  have HSZ := Lib.hid hszs
  clear hra hrb hw2 hb0 hc3 hc4 hxa hxb hsr hla hlb hN hM hz0 hMs hgr hszs
  rw [hn] at hnc ⊢
  clear hka hkl hkb hkl2 hn
  obtain ⟨⟨d0, d1, d2⟩, d3, d4, d5⟩ := HBX.out W0 (Below.refl _ _)
  have HREFL := Lib.hid (Below.refl W0.heap.size W0)
  have hgr0 : gr = true := by rw [HGE.out]; exact decide_eq_true (by rw [← HN.out]; exact hns)
  rw [hgr0] at HGR
  clear hgr0 HSZ HGE hns
  go_enter Try.func6, Try.ntmps6
  go_upto_region 1 with (fail)
  try rw [hW0]
  go_wp2_with (first
    | (go_at_call 8; refine (H8.out _ HREFL.out).mono ?_; rintro e w1 ⟨rfl, h1⟩; have H1 := Lib.hid h1; obtain ⟨⟨d0, d1, d2⟩, d3, d4, d5⟩ := HBX.out _ h1; clear h1)
    | (go_at_call 7; refine (HGR.out _ H1.out).mono ?_; rintro e w2 ⟨rfl, h2⟩; have H2 := Lib.hid h2; obtain ⟨⟨d0, d1, d2⟩, d3, d4, d5⟩ := HBX.out _ h2; clear h2))
  go_ret
  exact ⟨rfl, HB0.out.trans (H2.out.mono HB0.out.size)⟩

theorem knows_any {N M : Nat} {w : World} {va vb wv : Value} {a b : X} {word : Wd} (ha : XV N w va a) (hb : XV N w vb b) (hN : N ≤ w.heap.size) (hla : a.lit) (hlb : b.lit) (hw : SR M w wv word) (hM : M ≤ w.heap.size) (hcap : ∀ A m c, wv = .slice A m c → m ≤ c) :
    Calls Try.prog 6 #[va, vb, wv] w fun e w' => e = .returned (.bool true) ∧ Below w.heap.size w w' := by
  by_cases hns : 300 < gsum [a, b] 0 ∨ 30 < word.length
  · exact knows_great ha hb hN hla hlb hw hM hcap hns
  · cases htw : takesB a word with
    | true => exact knows_takes ha hb hN hla hlb hw hM hcap htw ((takesB_iff a word).1 htw).1 hns
    | false =>
      cases hra : a.right with
      | true => exact knows_not ha hb hN hla hlb hw hM hcap htw hra hns
      | false => exact knows_wrong ha hb hN hla hlb hw hM hcap htw hra hns
end Go.Proofs.Ytnohnkhhkeikoaa
