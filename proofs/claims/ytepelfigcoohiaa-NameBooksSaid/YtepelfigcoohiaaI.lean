/- Walks of what tells whether rows are the same. -/
import Derived.Test.YtepelfigcoohiaaB
namespace Go.Proofs.Ytepelfigcoohiaa
open Go.ChangeShapes Go.WideShapes Go.ChangeAt Go.RowKit Go.Maps
set_option linter.unusedVariables false

/-- the slice v holds just the numbers of l -/
def IR (w : World) (v : Value) (l : List Int) : Prop :=
  ∃ A c, v = .slice A l.length c ∧ (0 < l.length → ∃ ad, A = some ad ∧ ad.block < w.heap.size ∧ ∀ k (h : k < l.length), w.cell? (ad.add k) = some (.int .i64 l[k]))

theorem IR.keep {w w' : World} {v : Value} {l : List Int} (h : IR w v l) {p : Nat → Prop} (hk : Keep p w w') (hp : ∀ g, v.ownBlock = some g → g < w.heap.size → p g) : IR w' v l := by
  obtain ⟨A, c, rfl, h⟩ := h
  refine ⟨A, c, rfl, fun hn => ?_⟩
  obtain ⟨ad, rfl, hg, hc⟩ := h hn
  refine ⟨ad, rfl, Nat.lt_of_lt_of_le hg hk.size, fun k hlt => (World.cell?_of_block (a := ad.add k) ?_).trans (hc k hlt)⟩
  rw [block_add]
  exact hk.block _ hg (hp _ rfl hg)
theorem IR.below {w w' : World} {v : Value} {l : List Int} (h : IR w v l) (hb : Below w.heap.size w w') : IR w' v l := h.keep (p := fun _ => True) (Keep.of_below hb) fun _ _ _ => trivial
theorem IR.of_own {w : World} {base n : Nat} {v : Value} {l : List Int} (h : w.ownsRow base 3 1 v n (l.map (Value.int .i64))) : IR w v l := by
  have hn : n = l.length := by have := h.1; simp at this; omega
  subst hn
  rcases h.2 with ⟨rfl, hx⟩ | ⟨g, cap, cur, rfl, _, hh, _⟩
  · have : l = [] := List.eq_nil_of_length_eq_zero hx
    subst this
    exact ⟨none, 0, rfl, fun h => absurd h (by simp)⟩
  · refine ⟨_, cap, rfl, fun _ => ⟨_, rfl, (Array.getElem?_eq_some_iff.1 hh).1, fun k hk => ?_⟩⟩
    exact h.cells (g := g) rfl k _ (by simp [hk])

theorem take_stepG {α : Type} {l1 l2 : List α} {k : Nat} (h : l1.take k = l2.take k) (h1 : k < l1.length) (h2 : k < l2.length) (he : l1[k] = l2[k]) : l1.take (k + 1) = l2.take (k + 1) := by
  rw [List.take_succ_eq_append_getElem h1, List.take_succ_eq_append_getElem h2, h, he]

theorem sameI_nil (A B : Option Addr) (c d : Nat) (w : World) :
    Calls Try.prog 21 #[.slice A 0 c, .slice B 0 d] w fun e w' => e = .returned (.bool true) ∧ Below w.heap.size w w' := by
  go_enter Try.func21, Try.ntmps21
  go_wp2
  go_rounds 1
  go_ret
  exact ⟨rfl, by go_grown⟩

theorem sameI_ne (A B : Option Addr) (m n c d : Nat) (w : World) (h : m ≠ n) :
    Calls Try.prog 21 #[.slice A m c, .slice B n d] w fun e w' => e = .returned (.bool false) ∧ Below w.heap.size w w' := by
  have h1 : ((m : Int) != n) = true := by rw [bne_iff_ne]; omega
  go_enter Try.func21, Try.ntmps21
  go_wp2
  go_ret
  exact ⟨rfl, by go_grown⟩

theorem sameI_cells (a1 a2 : Addr) (c d : Nat) (l1 l2 : List Int) (w : World) (hl : l1.length = l2.length) (hn : l1.length ≤ 1000000) (b1 : a1.block < w.heap.size) (b2 : a2.block < w.heap.size)
    (h1 : ∀ k (h : k < l1.length), w.cell? (a1.add k) = some (.int .i64 l1[k])) (h2 : ∀ k (h : k < l2.length), w.cell? (a2.add k) = some (.int .i64 l2[k])) :
    Calls Try.prog 21 #[.slice (some a1) l1.length c, .slice (some a2) l1.length d] w fun e w' => e = .returned (.bool (decide (l1 = l2))) ∧ Below w.heap.size w w' := by
  have H1 := Lib.hid h1
  have H2 := Lib.hid h2
  have HL := Lib.hid hl
  clear h1 h2 hl
  obtain ⟨n, hN⟩ : ∃ n, l1.length = n := ⟨_, rfl⟩
  have HN := Lib.hid hN
  rw [hN] at hn ⊢
  clear hN
  go_enter Try.func21, Try.ntmps21
  go_wp2
  go_loopw [5] (fun i wr => ∃ k : Nat, k ≤ n ∧ i = .int .i64 k ∧ l1.take k = l2.take k ∧ Below w.heap.size w wr) (fun i _ => n - (intOf i).toNat)
  case atStart => exact ⟨0, Nat.zero_le _, rfl, by simp, Below.refl _ _⟩
  case round =>
    obtain ⟨k, hk, rfl, ht, hb⟩ := hrel
    have HT := Lib.hid ht
    clear ht
    by_cases hlt : k < n
    · have e1 : k < l1.length := by have := HN.out; omega
      have e2 : k < l2.length := by have := HN.out; have := HL.out; omega
      have g1c := (hb.cell (p := a1.add k) (by rw [block_add]; exact b1)).trans (H1.out k e1)
      have g2c := (hb.cell (p := a2.add k) (by rw [block_add]; exact b2)).trans (H2.out k e2)
      obtain ⟨x, hx⟩ : ∃ x, l1[k] = x := ⟨_, rfl⟩
      obtain ⟨y, hy⟩ : ∃ y, l2[k] = y := ⟨_, rfl⟩
      rw [hx] at g1c
      rw [hy] at g2c
      have HX := Lib.hid hx
      have HY := Lib.hid hy
      clear hx hy
      by_cases hxy : x = y
      · subst hxy
        go_wp2
        go_region
        go_wp2
        go_roundw
        case rel => exact ⟨k + 1, by omega, by go_num, take_stepG HT.out e1 e2 (HX.out.trans HY.out.symm), hb.trans (by go_grown)⟩
        case measure => simp [intOf]; omega
      · have hb1 : (x != y) = true := by simpa using hxy
        have H3 := Lib.hid hxy
        clear hxy
        go_wp2
        go_region
        go_wp2
        go_ret
        exact ⟨ret_bool (by symm; rw [decide_eq_false_iff_not]; rintro rfl; exact H3.out (HX.out.symm.trans HY.out)), hb.trans (by go_grown)⟩
    · have : k = n := by omega
      subst this
      go_wp2
      go_ret
      exact ⟨ret_bool (by symm; rw [decide_eq_true_iff]; have h1 := HT.out; rw [List.take_of_length_le (by have := HN.out; omega), List.take_of_length_le (by have := HN.out; have := HL.out; omega)] at h1; exact h1), hb⟩

theorem sameI_any (v1 v2 : Value) (l1 l2 : List Int) (w : World) (h1 : IR w v1 l1) (h2 : IR w v2 l2) (hn : l1.length ≤ 1000000) :
    Calls Try.prog 21 #[v1, v2] w fun e w' => e = .returned (.bool (decide (l1 = l2))) ∧ Below w.heap.size w w' := by
  obtain ⟨A, c, rfl, h1⟩ := h1
  obtain ⟨B, d, rfl, h2⟩ := h2
  by_cases hl : l1.length = l2.length
  · rcases Nat.eq_zero_or_pos l1.length with h0 | h0
    · have e1 : l1 = [] := List.eq_nil_of_length_eq_zero h0
      have e2 : l2 = [] := List.eq_nil_of_length_eq_zero (by omega)
      subst e1 e2
      exact sameI_nil A B c d w
    · obtain ⟨a1, rfl, b1, c1⟩ := h1 h0
      obtain ⟨a2, rfl, b2, c2⟩ := h2 (by omega)
      rw [← hl]
      exact sameI_cells a1 a2 c d l1 l2 w hl hn b1 b2 c1 c2
  · rw [decide_eq_false (fun h => hl (by rw [h]))]
    exact sameI_ne A B _ _ c d w hl
theorem toList_inj {x y : ByteArray} (h : x.toList = y.toList) : x = y := by
  rw [ByteArray.toList_eq, ByteArray.toList_eq] at h
  exact ByteArray.ext (Array.ext' h)

theorem sameT_nil (A B : Option Addr) (c d : Nat) (w : World) :
    Calls Try.prog 26 #[.slice A 0 c, .slice B 0 d] w fun e w' => e = .returned (.bool true) ∧ Below w.heap.size w w' := by
  go_enter Try.func26, Try.ntmps26
  go_wp2
  go_rounds 1
  go_ret
  exact ⟨rfl, by go_grown⟩

theorem sameT_ne (A B : Option Addr) (m n c d : Nat) (w : World) (h : m ≠ n) :
    Calls Try.prog 26 #[.slice A m c, .slice B n d] w fun e w' => e = .returned (.bool false) ∧ Below w.heap.size w w' := by
  have h1 : ((m : Int) != n) = true := by rw [bne_iff_ne]; omega
  go_enter Try.func26, Try.ntmps26
  go_wp2
  go_ret
  exact ⟨rfl, by go_grown⟩

theorem sameT_cells (a1 a2 : Addr) (c d : Nat) (l1 l2 : List ByteArray) (w : World) (hl : l1.length = l2.length) (hn : l1.length ≤ 1000000) (b1 : a1.block < w.heap.size) (b2 : a2.block < w.heap.size)
    (h1 : ∀ k (h : k < l1.length), w.cell? (a1.add k) = some (.string l1[k])) (h2 : ∀ k (h : k < l2.length), w.cell? (a2.add k) = some (.string l2[k])) :
    Calls Try.prog 26 #[.slice (some a1) l1.length c, .slice (some a2) l1.length d] w fun e w' => e = .returned (.bool (decide (l1 = l2))) ∧ Below w.heap.size w w' := by
  have H1 := Lib.hid h1
  have H2 := Lib.hid h2
  have HL := Lib.hid hl
  clear h1 h2 hl
  obtain ⟨n, hN⟩ : ∃ n, l1.length = n := ⟨_, rfl⟩
  have HN := Lib.hid hN
  rw [hN] at hn ⊢
  clear hN
  go_enter Try.func26, Try.ntmps26
  go_wp2
  go_loopw [5] (fun i wr => ∃ k : Nat, k ≤ n ∧ i = .int .i64 k ∧ l1.take k = l2.take k ∧ Below w.heap.size w wr) (fun i _ => n - (intOf i).toNat)
  case atStart => exact ⟨0, Nat.zero_le _, rfl, by simp, Below.refl _ _⟩
  case round =>
    obtain ⟨k, hk, rfl, ht, hb⟩ := hrel
    have HT := Lib.hid ht
    clear ht
    by_cases hlt : k < n
    · have e1 : k < l1.length := by have := HN.out; omega
      have e2 : k < l2.length := by have := HN.out; have := HL.out; omega
      have g1c := (hb.cell (p := a1.add k) (by rw [block_add]; exact b1)).trans (H1.out k e1)
      have g2c := (hb.cell (p := a2.add k) (by rw [block_add]; exact b2)).trans (H2.out k e2)
      obtain ⟨x, hx⟩ : ∃ x, l1[k] = x := ⟨_, rfl⟩
      obtain ⟨y, hy⟩ : ∃ y, l2[k] = y := ⟨_, rfl⟩
      rw [hx] at g1c
      rw [hy] at g2c
      have HX := Lib.hid hx
      have HY := Lib.hid hy
      clear hx hy
      by_cases hxy : x = y
      · subst hxy
        go_wp2
        go_region
        go_wp2
        go_roundw
        case rel => exact ⟨k + 1, by omega, by go_num, take_stepG HT.out e1 e2 (HX.out.trans HY.out.symm), hb.trans (by go_grown)⟩
        case measure => simp [intOf]; omega
      · have hb1 : (x.toList == y.toList) = false := by rw [beq_eq_false_iff_ne]; exact fun e => hxy (toList_inj e)
        have H3 := Lib.hid hxy
        clear hxy
        go_wp2
        go_region
        go_wp2
        go_ret
        exact ⟨ret_bool (by symm; rw [decide_eq_false_iff_not]; rintro rfl; exact H3.out (HX.out.symm.trans HY.out)), hb.trans (by go_grown)⟩
    · have : k = n := by omega
      subst this
      go_wp2
      go_ret
      exact ⟨ret_bool (by symm; rw [decide_eq_true_iff]; have h1 := HT.out; rw [List.take_of_length_le (by have := HN.out; omega), List.take_of_length_le (by have := HN.out; have := HL.out; omega)] at h1; exact h1), hb⟩

theorem sameT_any (v1 v2 : Value) (l1 l2 : List ByteArray) (w : World) (h1 : SR w v1 l1) (h2 : SR w v2 l2) (hn : l1.length ≤ 1000000) :
    Calls Try.prog 26 #[v1, v2] w fun e w' => e = .returned (.bool (decide (l1 = l2))) ∧ Below w.heap.size w w' := by
  obtain ⟨A, c, rfl, h1⟩ := h1
  obtain ⟨B, d, rfl, h2⟩ := h2
  by_cases hl : l1.length = l2.length
  · rcases Nat.eq_zero_or_pos l1.length with h0 | h0
    · have e1 : l1 = [] := List.eq_nil_of_length_eq_zero h0
      have e2 : l2 = [] := List.eq_nil_of_length_eq_zero (by omega)
      subst e1 e2
      exact sameT_nil A B c d w
    · obtain ⟨a1, rfl, b1, c1⟩ := h1 h0
      obtain ⟨a2, rfl, b2, c2⟩ := h2 (by omega)
      rw [← hl]
      exact sameT_cells a1 a2 c d l1 l2 w hl hn b1 b2 c1 c2
  · rw [decide_eq_false (fun h => hl (by rw [h]))]
    exact sameT_ne A B _ _ c d w hl
end Go.Proofs.Ytepelfigcoohiaa
