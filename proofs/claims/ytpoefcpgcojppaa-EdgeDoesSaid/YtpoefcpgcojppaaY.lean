/- Rows of bytes in memory; walk of what holds two of them against each other; times. -/
import Derived.Test.YtpoefcpgcojppaaX
import Derived.Lib.AppendStr
import Derived.OpenShut
namespace Go.Proofs.Ytpoefcpgcojppaa
open Go.ChangeShapes Go.WideShapes Go.ChangeAt Go.RowKit
set_option linter.unusedVariables false

def byC (l : List UInt8) : List Value := l.map fun b => .int .u8 b.toNat
theorem byC_len (l : List UInt8) : (byC l).length = l.length := by simp [byC]
theorem byC_app (l m : List UInt8) : byC (l ++ m) = byC l ++ byC m := by simp [byC]
theorem byC_str (s : ByteArray) : Lib.strCells s = byC s.data.toList := rfl
theorem byC_one (l : List UInt8) : ∀ u ∈ byC l, u.oneCell' = true := by
  intro u hu
  simp only [byC, List.mem_map] at hu
  obtain ⟨b, _, rfl⟩ := hu
  rfl
theorem byC_at (l : List UInt8) (k : Nat) (h : k < l.length) : (byC l)[k]? = some (.int .u8 l[k].toNat) := by
  simp [byC, h]
/-- the slice v holds just the bytes of l -/
def BR (w : World) (v : Value) (l : List UInt8) : Prop :=
  ∃ A c, v = .slice A l.length c ∧ (0 < l.length → ∃ ad, A = some ad ∧ ad.block < w.heap.size ∧ ∀ j u, (byC l)[j]? = some u → w.cell? (ad.add j) = some u)
theorem BR.keep {w w' : World} {v : Value} {l : List UInt8} (h : BR w v l) {p : Nat → Prop} (hk : Keep p w w') (hp : 0 < l.length → ∀ g, v.ownBlock = some g → g < w.heap.size → p g) : BR w' v l := by
  obtain ⟨A, c, rfl, h⟩ := h
  refine ⟨A, c, rfl, fun hn => ?_⟩
  obtain ⟨ad, rfl, hg, hc⟩ := h hn
  have hb := hk.block _ hg (hp hn _ rfl hg)
  have hcell : ∀ j, w'.cell? (ad.add j) = w.cell? (ad.add j) := fun j => World.cell?_of_block (a := ad.add j) (by rw [block_add]; exact hb)
  exact ⟨ad, rfl, Nat.lt_of_lt_of_le hg hk.size, fun j u hj => (hcell j).trans (hc j u hj)⟩
theorem BR.below {w w' : World} {v : Value} {l : List UInt8} (h : BR w v l) (hb : Below w.heap.size w w') : BR w' v l := h.keep (p := fun _ => True) (Keep.of_below hb) fun _ _ _ _ => trivial
theorem BR.gr {w w' : World} {v : Value} {l : List UInt8} (h : BR w v l) (hb : Gr w w') : BR w' v l := h.below hb.below
theorem BR.form {w : World} {v : Value} {l : List UInt8} (h : BR w v l) : ∃ A c, v = .slice A l.length c := by
  obtain ⟨A, c, e, _⟩ := h
  exact ⟨A, c, e⟩
theorem BR.nil (w : World) (A : Option Addr) (c : Nat) : BR w (.slice A 0 c) [] := ⟨A, c, rfl, fun h => absurd h (by simp)⟩
theorem BR.of_own {w : World} {base n : Nat} {t : TypeId} {v : Value} {l : List UInt8} (h : w.ownsRow base t 1 v n (byC l)) : BR w v l := by
  have hn : n = l.length := by have := h.1; rw [byC_len] at this; omega
  subst hn
  rcases h.2 with ⟨rfl, hx⟩ | ⟨g, cap, cur, rfl, _, hh, _⟩
  · have : l = [] := List.eq_nil_of_length_eq_zero hx
    subst this
    exact BR.nil w none 0
  · exact ⟨_, cap, rfl, fun _ => ⟨_, rfl, (Array.getElem?_eq_some_iff.1 hh).1, fun j u hj => h.cells (g := g) rfl _ _ hj⟩⟩
theorem BR.at1 {w : World} {A : Option Addr} {n c : Nat} {l : List UInt8} (h : BR w (.slice A n c) l) {k : Nat} (hk : k < l.length) :
    ∃ ad, A = some ad ∧ ad.block < w.heap.size ∧ w.cell? (ad.add k) = some (.int .u8 l[k].toNat) := by
  obtain ⟨A', c', e, h⟩ := h
  injection e with e1 e2 e3
  subst e1
  obtain ⟨ad, h1, h2, h3⟩ := h (by omega)
  exact ⟨ad, h1, h2, h3 _ _ (byC_at l k hk)⟩

theorem sameB_ne (A B : Option Addr) (m n c d : Nat) (w : World) (h : m ≠ n) :
    Calls Try.prog 22 #[.slice A m c, .slice B n d] w fun e w' => e = .returned (.bool false) ∧ Gr w w' := by
  have h1 : ((m : Int) != n) = true := by rw [bne_iff_ne]; omega
  go_enter Try.func22, Try.ntmps22
  go_wp2_with fail
  go_ret
  exact ⟨rfl, Gr.refl _⟩

set_option maxHeartbeats 2000000 in
theorem sameB_any {w : World} {v1 v2 : Value} {x y : List UInt8} (h1 : BR w v1 x) (h2 : BR w v2 y) (hn : x.length ≤ 281474976710656) :
    Calls Try.prog 22 #[v1, v2] w fun e w' => e = .returned (.bool (decide (x = y))) ∧ Gr w w' := by
  have H1 := Lib.hid h1
  have H2 := Lib.hid h2
  obtain ⟨A, c, rfl, _⟩ := h1
  obtain ⟨B, d, rfl, _⟩ := h2
  by_cases hl : x.length = y.length
  · obtain ⟨n, hN⟩ : ∃ n, x.length = n := ⟨_, rfl⟩
    have HN := Lib.hid (And.intro hN (hl.symm.trans hN))
    rw [← hl] at H2 ⊢
    rw [hN] at H1 H2 hn ⊢
    clear hN hl
    go_enter Try.func22, Try.ntmps22
    go_wp2_with fail
    go_loopw [5] (fun i wr => ∃ k : Nat, k ≤ n ∧ i = .int .i64 k ∧ x.take k = y.take k ∧ Gr w wr) (fun i _ => n - (Lib.intOf i).toNat)
    case atStart => exact ⟨0, Nat.zero_le _, rfl, by simp, Gr.refl _⟩
    case round =>
      obtain ⟨k, hk, rfl, ht, hb⟩ := hrel
      have HT := Lib.hid ht
      have HB := Lib.hid hb
      clear ht hb
      by_cases hlt : k < n
      · have e1 : k < x.length := by have := HN.out.1; omega
        have e2 : k < y.length := by have := HN.out.2; omega
        obtain ⟨ad, f1, _, q0⟩ := BR.at1 (H1.out.gr HB.out) e1
        subst f1
        obtain ⟨ad2, f2, _, r0⟩ := BR.at1 (H2.out.gr HB.out) e2
        subst f2
        obtain ⟨p, hp⟩ : ∃ p, x[k] = p := ⟨_, rfl⟩
        obtain ⟨q, hq⟩ : ∃ q, y[k] = q := ⟨_, rfl⟩
        rw [hp] at q0
        rw [hq] at r0
        have HX := Lib.hid hp
        have HY := Lib.hid hq
        clear hp hq
        by_cases hxy : p = q
        · have HXY := Lib.hid hxy
          subst hxy
          go_upto_region 6 with (fail)
          go_quiet (fail)
          have HBQ := Lib.hid (HB.out.drewN nq)
          clear q0 r0
          generalize wr.drewN nq = WT at *
          go_wp2_with fail
          go_roundw
          case rel => exact ⟨k + 1, by omega, by go_num, take_stepP HT.out e1 e2 (HX.out.trans HY.out.symm), HBQ.out⟩
          case measure => simp [Lib.intOf]; omega
        · have hne : ((p.toNat : Int) != (q.toNat : Int)) = true := by rw [bne_iff_ne]; intro h; exact hxy (UInt8.toNat_inj.1 (by omega))
          have HXY := Lib.hid hxy
          clear hxy
          go_upto_region 6 with (fail)
          go_quiet (fail)
          have HBQ := Lib.hid (HB.out.drewN nq)
          clear q0 r0 hne
          generalize wr.drewN nq = WT at *
          go_wp2_with fail
          go_ret
          refine ⟨ret_bool ?_, HBQ.out⟩
          symm
          rw [decide_eq_false_iff_not]
          rintro rfl
          exact HXY.out (HX.out.symm.trans HY.out)
      · have : k = n := by omega
        subst this
        go_wp2_with fail
        go_ret
        refine ⟨ret_bool ?_, HB.out⟩
        symm
        rw [decide_eq_true_iff]
        have h := HT.out
        rwa [List.take_of_length_le (by have := HN.out.1; omega), List.take_of_length_le (by have := HN.out.2; omega)] at h
  · rw [decide_eq_false (fun h => hl (by rw [h]))]
    exact sameB_ne A B _ _ c d w hl

/-! ### times -/
def timeB (t : Int) : Bool := decide (0 ≤ t ∧ t ≤ 1099511627776)
theorem within1 (lo hi x : Int) (b : Nat) (w : World) (hc : w.cell? ⟨b, 0, none⟩ = some (.int .i64 x)) :
    Calls Try.prog 74 #[.int .i64 lo, .int .i64 hi, .slice (some ⟨b, 0, none⟩) 1 1] w fun e w' => e = .returned (.bool (decide (lo ≤ x ∧ x ≤ hi))) ∧ w' = w := by
  have h : x < lo ∨ (lo ≤ x ∧ hi < x) ∨ (lo ≤ x ∧ x ≤ hi) := by omega
  rcases h with h | h | h
  · go_enter Try.func74, Try.ntmps74
    go_wp2
    go_rounds 2
    go_ret
    exact ⟨ret_bool (by simp; omega), rfl⟩
  · obtain ⟨h1, h2⟩ := h
    go_enter Try.func74, Try.ntmps74
    go_wp2
    go_rounds 2
    go_ret
    exact ⟨ret_bool (by simp; omega), rfl⟩
  · obtain ⟨h1, h2⟩ := h
    go_enter Try.func74, Try.ntmps74
    go_wp2
    go_rounds 2
    go_ret
    exact ⟨ret_bool (by simp; omega), rfl⟩
theorem is_any (t : Int) (w : World) : Calls Try.prog 46 #[.int .i64 t] w fun e w' => e = .returned (.bool (timeB t)) ∧ Gr w w' := by
  go_enter Try.func46, Try.ntmps46
  go_wp2_with (go_at_call 74; refine (within1 _ _ t _ _ (by go_cell)).mono ?_; rintro e w' ⟨rfl, rfl⟩)
  go_ret
  exact ⟨ret_bool (by simp [timeB]), (Gr.refl w).alloc _⟩
theorem rIs_any (t : Int) (w : World) : Calls Try.prog 50 #[.int .i64 t] w fun e w' => e = .returned (.bool (timeB t)) ∧ Gr w w' := by
  have h : t < 0 ∨ (0 ≤ t ∧ 1099511627776 < t) ∨ (0 ≤ t ∧ t ≤ 1099511627776) := by omega
  rcases h with h | ⟨h1, h2⟩ | ⟨h1, h2⟩
  all_goals
    go_enter Try.func50, Try.ntmps50
    go_wp2
    go_ret
    exact ⟨ret_bool (by simp [timeB]; try omega), Gr.refl w⟩
end Go.Proofs.Ytpoefcpgcojppaa
