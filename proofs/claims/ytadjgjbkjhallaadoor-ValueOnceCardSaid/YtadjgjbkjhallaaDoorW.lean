/- Rows of values in memory; walks of what holds two of them against each other. -/
import Derived.Test.YtadjgjbkjhallaaDoorN
import Derived.Shelf.SlSortCmp.QuietGrown
import Derived.Deep.Cut
import Derived.Lib.SmallJoins
namespace Go.Proofs.YtadjgjbkjhallaaDoor
open Go.ChangeShapes Go.WideShapes Go.ChangeAt Go.RowKit
set_option linter.unusedVariables false

/-- of the blocks that p names nothing has turned -/
structure Keep (p : Nat → Prop) (w w' : World) : Prop where
  os : w'.os = w.os
  tape : w'.tape = w.tape
  output : w'.output = w.output
  size : w.heap.size ≤ w'.heap.size
  block : ∀ k, k < w.heap.size → p k → w'.heap[k]? = w.heap[k]?
theorem Keep.refl (p : Nat → Prop) (w : World) : Keep p w w := ⟨rfl, rfl, rfl, Nat.le_refl _, fun _ _ _ => rfl⟩
theorem Keep.trans {p q : Nat → Prop} {a b c : World} (h : Keep p a b) (k : Keep q b c) (hq : ∀ i, i < a.heap.size → p i → q i) : Keep p a c :=
  ⟨k.os.trans h.os, k.tape.trans h.tape, k.output.trans h.output, Nat.le_trans h.size k.size, fun i hi hp => (k.block i (Nat.lt_of_lt_of_le hi h.size) (hq i hi hp)).trans (h.block i hi hp)⟩
theorem Keep.of_below {p : Nat → Prop} {w w' : World} (h : Below w.heap.size w w') : Keep p w w' := ⟨h.os, h.tape, h.output, h.size, fun k hk _ => h.block k hk⟩
theorem Keep.of_belowN {N : Nat} {w w' : World} (h : Below N w w') : Keep (fun k => k < N) w w' := ⟨h.os, h.tape, h.output, h.size, fun k _ hk => h.block k hk⟩
theorem Keep.of_grown {p : Nat → Prop} {w w' : World} {row : Option Nat} (h : w.grownBy w' row) (hr : ∀ k, k < w.heap.size → p k → some k ≠ row) : Keep p w w' := ⟨h.os, h.tape, h.output, h.size, fun k hk hp => h.block k hk (hr k hk hp)⟩
theorem block_add (a : Addr) (n : Nat) : (a.add n).block = a.block := by unfold Addr.add; split <;> rfl

theorem add_of_add (a : Addr) (i j : Nat) : (a.add i).add j = a.add (i + j) := by
  unfold Addr.add
  by_cases hi : i = 0 <;> by_cases hj : j = 0 <;> simp [hi, hj, Nat.add_assoc]

/-- a value's three cells -/
def encV (x : Vt) : List Value := [.int .i64 x.1, .int .i64 x.2.1, .string x.2.2]
def flatV (l : List Vt) : List Value := l.flatMap encV
theorem flatV_len (l : List Vt) : (flatV l).length = l.length * 3 := by simp [flatV, encV, List.length_flatMap, Function.comp_def, List.map_const']
theorem flatV_app (l m : List Vt) : flatV (l ++ m) = flatV l ++ flatV m := by simp [flatV]
theorem flatV_cons (x : Vt) (l : List Vt) : flatV (x :: l) = .int .i64 x.1 :: .int .i64 x.2.1 :: .string x.2.2 :: flatV l := by simp [flatV, encV]
theorem flatV_at : ∀ (l : List Vt) (k : Nat) (h : k < l.length), (flatV l)[k * 3]? = some (.int .i64 l[k].1) ∧ (flatV l)[k * 3 + 1]? = some (.int .i64 l[k].2.1) ∧ (flatV l)[k * 3 + 2]? = some (.string l[k].2.2)
  | x :: l, 0, h => by simp [flatV, encV]
  | x :: l, k + 1, h => by
    have := flatV_at l k (by simp at h; omega)
    simp only [List.getElem_cons_succ]
    rw [flatV_cons, show (k + 1) * 3 = k * 3 + 1 + 1 + 1 by omega, show k * 3 + 1 + 1 + 1 + 1 = (k * 3 + 1) + 1 + 1 + 1 by omega, show k * 3 + 1 + 1 + 1 + 2 = (k * 3 + 2) + 1 + 1 + 1 by omega]
    simpa only [List.getElem?_cons_succ] using this

/-- the slice v holds just the values of l -/
def VR (w : World) (v : Value) (l : List Vt) : Prop :=
  ∃ A c, v = .slice A l.length c ∧ (0 < l.length → ∃ ad, A = some ad ∧ ad.block < w.heap.size ∧ ∀ k (h : k < l.length), w.cell? (ad.add (k * 3)) = some (.int .i64 l[k].1) ∧ w.cell? (ad.add (k * 3 + 1)) = some (.int .i64 l[k].2.1) ∧ w.cell? (ad.add (k * 3 + 2)) = some (.string l[k].2.2))
theorem VR.keep {w w' : World} {v : Value} {l : List Vt} (h : VR w v l) {p : Nat → Prop} (hk : Keep p w w') (hp : 0 < l.length → ∀ g, v.ownBlock = some g → g < w.heap.size → p g) : VR w' v l := by
  obtain ⟨A, c, rfl, h⟩ := h
  refine ⟨A, c, rfl, fun hn => ?_⟩
  obtain ⟨ad, rfl, hg, hc⟩ := h hn
  have hb := hk.block _ hg (hp hn _ rfl hg)
  have hcell : ∀ j, w'.cell? (ad.add j) = w.cell? (ad.add j) := fun j => World.cell?_of_block (a := ad.add j) (by rw [block_add]; exact hb)
  exact ⟨ad, rfl, Nat.lt_of_lt_of_le hg hk.size, fun k hlt => by rw [hcell, hcell, hcell]; exact hc k hlt⟩
theorem VR.below {w w' : World} {v : Value} {l : List Vt} (h : VR w v l) (hb : Below w.heap.size w w') : VR w' v l := h.keep (p := fun _ => True) (Keep.of_below hb) fun _ _ _ _ => trivial
theorem VR.lt {w : World} {v : Value} {l : List Vt} (h : VR w v l) : 0 < l.length → ∀ g, v.ownBlock = some g → g < w.heap.size := by
  obtain ⟨A, c, rfl, h⟩ := h
  intro hn g e
  obtain ⟨ad, rfl, hg, _⟩ := h hn
  simp [Value.ownBlock] at e
  omega
theorem VR.of_own {w : World} {base n : Nat} {t : TypeId} {v : Value} {l : List Vt} (h : w.ownsRow base t 3 v n (flatV l)) : VR w v l := by
  have hn : n = l.length := by have := h.1; rw [flatV_len] at this; omega
  subst hn
  rcases h.2 with ⟨rfl, hx⟩ | ⟨g, cap, cur, rfl, _, hh, _⟩
  · have : l = [] := List.eq_nil_of_length_eq_zero hx
    subst this
    exact ⟨none, 0, rfl, fun h => absurd h (by simp)⟩
  · refine ⟨_, cap, rfl, fun _ => ⟨_, rfl, (Array.getElem?_eq_some_iff.1 hh).1, fun k hk => ?_⟩⟩
    obtain ⟨a1, a2, a3⟩ := flatV_at l k hk
    exact ⟨h.cells (g := g) rfl _ _ a1, h.cells (g := g) rfl _ _ a2, h.cells (g := g) rfl _ _ a3⟩
theorem at3 {w : World} {ad : Addr} {k j : Nat} {u : Value} (hj : 0 < j) (h : w.cell? (ad.add (k * 3 + j)) = some u) : w.cell? ⟨(ad.add (k * 3)).block, (ad.add (k * 3)).off + j, none⟩ = some u := by
  have : ad.add (k * 3 + j) = ⟨(ad.add (k * 3)).block, (ad.add (k * 3)).off + j, none⟩ := by
    rw [← add_of_add]
    obtain ⟨B, o, s⟩ := ad.add (k * 3)
    unfold Addr.add
    split
    · rename_i h0
      omega
    · simp
  rw [← this]
  exact h
theorem VR.at3 {w : World} {A : Option Addr} {n c : Nat} {l : List Vt} (h : VR w (.slice A n c) l) {k : Nat} (hk : k < l.length) :
    ∃ ad, A = some ad ∧ ad.block < w.heap.size ∧ w.cell? (ad.add (k * 3)) = some (.int .i64 l[k].1) ∧ w.cell? ⟨(ad.add (k * 3)).block, (ad.add (k * 3)).off + 1, none⟩ = some (.int .i64 l[k].2.1) ∧ w.cell? ⟨(ad.add (k * 3)).block, (ad.add (k * 3)).off + 2, none⟩ = some (.string l[k].2.2) := by
  obtain ⟨A', c', e, h⟩ := h
  injection e with e1 e2 e3
  subst e1
  obtain ⟨ad, h1, h2, h3⟩ := h (by omega)
  obtain ⟨h4, h5, h6⟩ := h3 k hk
  exact ⟨ad, h1, h2, h4, YtadjgjbkjhallaaDoor.at3 (by omega) h5, YtadjgjbkjhallaaDoor.at3 (by omega) h6⟩

theorem take_stepV {l1 l2 : List Vt} {k : Nat} (h : l1.take k = l2.take k) (h1 : k < l1.length) (h2 : k < l2.length) (he : l1[k] = l2[k]) : l1.take (k + 1) = l2.take (k + 1) := by
  rw [List.take_succ_eq_append_getElem h1, List.take_succ_eq_append_getElem h2, h, he]

theorem ne25_eq (W : World) (a b : Int) (c : ByteArray) : (binOp .neq 25 (.agg #[.int .i64 a, .int .i64 b, .string c]) (.agg #[.int .i64 a, .int .i64 b, .string c])).run Tryd.prog W = .ok (.bool false) W := by
  rw [ne25, decide_eq_true rfl]
  rfl
theorem ne25_not (W : World) {a b : Int} {c : ByteArray} {a' b' : Int} {c' : ByteArray} (h : (a, b, c) ≠ (a', b', c')) : (binOp .neq 25 (.agg #[.int .i64 a, .int .i64 b, .string c]) (.agg #[.int .i64 a', .int .i64 b', .string c'])).run Tryd.prog W = .ok (.bool true) W := by
  rw [ne25, decide_eq_false h]
  rfl

theorem sameV_ne (A B : Option Addr) (m n c d : Nat) (w : World) (h : m ≠ n) :
    Calls Tryd.prog 22 #[.slice A m c, .slice B n d] w fun e w' => e = .returned (.bool false) ∧ Below w.heap.size w w' := by
  have h1 : ((m : Int) != n) = true := by rw [bne_iff_ne]; omega
  go_enter Tryd.func22, Tryd.ntmps22
  go_wp2_with fail
  go_ret
  exact ⟨rfl, Below.refl _ _⟩

set_option maxHeartbeats 2000000 in
theorem sameV_any {w : World} {v1 v2 : Value} {x y : List Vt} (h1 : VR w v1 x) (h2 : VR w v2 y) (hn : x.length ≤ 281474976710656) :
    Calls Tryd.prog 22 #[v1, v2] w fun e w' => e = .returned (.bool (decide (x = y))) ∧ Below w.heap.size w w' := by
  have H1 := Lib.hid h1
  have H2 := Lib.hid h2
  obtain ⟨A, c, rfl, _⟩ := h1
  obtain ⟨B, d, rfl, _⟩ := h2
  by_cases hl : x.length = y.length
  · obtain ⟨n, hN⟩ : ∃ n, x.length = n := ⟨_, rfl⟩
    have HN := Lib.hid (And.intro hN (hl.symm.trans hN))
    rw [← hl] at H2 ⊢
    rw [hN] at H1 H2 hn ⊢
    clear hN hl
    go_enter Tryd.func22, Tryd.ntmps22
    go_wp2_with fail
    go_loopw [5] (fun i wr => ∃ k : Nat, k ≤ n ∧ i = .int .i64 k ∧ x.take k = y.take k ∧ Below w.heap.size w wr) (fun i _ => n - (Lib.intOf i).toNat)
    case atStart => exact ⟨0, Nat.zero_le _, rfl, by simp, Below.refl _ _⟩
    case round =>
      obtain ⟨k, hk, rfl, ht, hb⟩ := hrel
      have HT := Lib.hid ht
      have HB := Lib.hid hb
      clear ht hb
      by_cases hlt : k < n
      · have e1 : k < x.length := by have := HN.out.1; omega
        have e2 : k < y.length := by have := HN.out.2; omega
        obtain ⟨ad, f1, _, q0, q1, q2⟩ := VR.at3 (H1.out.below HB.out) e1
        subst f1
        obtain ⟨ad2, f2, _, r0, r1, r2⟩ := VR.at3 (H2.out.below HB.out) e2
        subst f2
        obtain ⟨p, hp⟩ : ∃ p, x[k] = p := ⟨_, rfl⟩
        obtain ⟨q, hq⟩ : ∃ q, y[k] = q := ⟨_, rfl⟩
        rw [hp] at q0 q1 q2
        rw [hq] at r0 r1 r2
        have HX := Lib.hid hp
        have HY := Lib.hid hq
        clear hp hq
        obtain ⟨p1, p2, p3⟩ := p
        obtain ⟨s1, s2, s3⟩ := q
        by_cases hxy : (p1, p2, p3) = (s1, s2, s3)
        · have HXY := Lib.hid hxy
          injection hxy with z1 z2
          injection z2 with z2 z3
          subst z1 z2 z3
          have hne := fun W => ne25_eq W p1 p2 p3
          go_upto_region 6 with (fail)
          go_quiet (fail)
          have HBQ := Lib.hid (HB.out.trans (⟨rfl, rfl, rfl, Nat.le_refl _, fun _ _ => rfl⟩ : Below w.heap.size wr (wr.drewN nq)))
          clear q0 q1 q2 r0 r1 r2 hne
          generalize wr.drewN nq = WT at *
          go_wp2_with fail
          go_roundw
          case rel => exact ⟨k + 1, by omega, by go_num, take_stepV HT.out e1 e2 (HX.out.trans HY.out.symm), HBQ.out⟩
          case measure => simp [Lib.intOf]; omega
        · have hne := fun W => ne25_not W hxy
          have HXY := Lib.hid hxy
          clear hxy
          go_upto_region 6 with (fail)
          go_quiet (fail)
          have HBQ := Lib.hid (HB.out.trans (⟨rfl, rfl, rfl, Nat.le_refl _, fun _ _ => rfl⟩ : Below w.heap.size wr (wr.drewN nq)))
          clear q0 q1 q2 r0 r1 r2 hne
          generalize wr.drewN nq = WT at *
          go_wp2_with fail
          go_ret
          refine ⟨ret_bool ?_, HBQ.out⟩
          symm
          rw [decide_eq_false_iff_not]
          rintro rfl
          exact HXY.out (HX.out.symm.trans HY.out)
      · have : k = n := by omega
        subst this
        go_wp2_with fail
        go_ret
        refine ⟨ret_bool ?_, HB.out⟩
        symm
        rw [decide_eq_true_iff]
        have h := HT.out
        rwa [List.take_of_length_le (by have := HN.out.1; omega), List.take_of_length_le (by have := HN.out.2; omega)] at h
  · rw [decide_eq_false (fun h => hl (by rw [h]))]
    exact sameV_ne A B _ _ c d w hl
end Go.Proofs.YtadjgjbkjhallaaDoor
