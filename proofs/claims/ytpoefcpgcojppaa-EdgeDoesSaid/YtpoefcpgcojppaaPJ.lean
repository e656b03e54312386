/- The bytes that are read, in memory; walks of what tells the next of them, a number. -/
import Derived.Test.YtpoefcpgcojppaaPI
import Derived.Laws.IdiomStrings
import Derived.Laws.BitsLemmas
namespace Go.Proofs.Ytpoefcpgcojppaa
open Go.ChangeShapes Go.WideShapes Go.ChangeAt Go.RowKit
set_option linter.unusedVariables false

/-- the slice v holds just the bytes of l, in a block ahead of B -/
def SB (w : World) (B : Nat) (v : Value) (l : List UInt8) : Prop :=
  ∃ A c, v = .slice A l.length c ∧ l.length ≤ c ∧ (0 < l.length → ∃ ad, A = some ad ∧ ad.block < B ∧ ad.block < w.heap.size ∧ ∀ j u, (byC l)[j]? = some u → w.cell? (ad.add j) = some u) ∧ (A = none → c = 0)
/-- block B holds the slice whose bytes are still to be read -/
structure RdS (w : World) (B : Nat) (l : List UInt8) : Prop where
  ex : ∃ v, w.cell? ⟨B, 0, none⟩ = some v ∧ SB w B v l
  fr : w.frozen? ⟨B, 0, none⟩ = false
  lt : B < w.heap.size
theorem SB.br {w : World} {B : Nat} {v : Value} {l : List UInt8} (h : SB w B v l) : BR w v l := by
  obtain ⟨A, c, rfl, _, h, _⟩ := h
  refine ⟨A, c, rfl, fun hn => ?_⟩
  obtain ⟨ad, h1, _, h2, h3⟩ := h hn
  exact ⟨ad, h1, h2, h3⟩
theorem SB.keep {w w' : World} {B : Nat} {v : Value} {l : List UInt8} (h : SB w B v l) (hk : Keep (fun k => k < B) w w') : SB w' B v l := by
  obtain ⟨A, c, rfl, hc, h, h0⟩ := h
  refine ⟨A, c, rfl, hc, fun hn => ?_, h0⟩
  obtain ⟨ad, h1, h2, h3, h4⟩ := h hn
  exact ⟨ad, h1, h2, Nat.lt_of_lt_of_le h3 hk.size, fun j u hj => (World.cell?_of_block (a := ad.add j) (by rw [block_add]; exact hk.block _ h3 h2)).trans (h4 j u hj)⟩
theorem SB.keepB {w w' : World} {B : Nat} {v : Value} {l : List UInt8} (h : SB w B v l) (hk : Keep (fun k => k ≠ B) w w') : SB w' B v l := h.keep ⟨hk.os, hk.tape, hk.output, hk.size, fun k hlt hb => hk.block k hlt (by show k ≠ B; omega)⟩
theorem SB.take {w : World} {B : Nat} {A : Option Addr} {n c : Nat} {l : List UInt8} (h : SB w B (.slice A n c) l) {k : Nat} (hk : k ≤ n) : SB w B (.slice A k c) (l.take k) := by
  obtain ⟨A', c', e, hc, h, h0⟩ := h
  injection e with e1 e2 e3
  subst e1 e2 e3
  have hl : (l.take k).length = k := by rw [List.length_take, Nat.min_eq_left hk]
  refine ⟨A, c, by rw [hl], by omega, fun hn => ?_, h0⟩
  obtain ⟨ad, h1, h2, h3, h4⟩ := h (by omega)
  refine ⟨ad, h1, h2, h3, fun j u hj => h4 j u ?_⟩
  have e : byC l = byC (l.take k) ++ byC (l.drop k) := by rw [← byC_app, List.take_append_drop]
  rw [e, List.getElem?_append_left (List.getElem?_eq_some_iff.1 hj).1]
  exact hj
theorem SB.drop {w : World} {B : Nat} {ad : Addr} {n c : Nat} {l : List UInt8} (h : SB w B (.slice (some ad) n c) l) {k : Nat} (hk : k ≤ n) : SB w B (.slice (if c = k then some ad else some (ad.add k)) (n - k) (c - k)) (l.drop k) := by
  obtain ⟨A', c', e, hc, h, h0⟩ := h
  injection e with e1 e2 e3
  subst e1 e2 e3
  refine ⟨_, _, by rw [List.length_drop], by rw [List.length_drop]; omega, fun hn => ?_, fun h => by split at h <;> cases h⟩
  rw [List.length_drop] at hn
  obtain ⟨ad', h1, h2, h3, h4⟩ := h (by omega)
  injection h1 with h1
  subst h1
  rw [if_neg (by omega)]
  refine ⟨_, rfl, by rw [block_add]; exact h2, by rw [block_add]; exact h3, fun j u hj => ?_⟩
  rw [add_of_add]
  refine h4 _ u ?_
  have e : byC l = byC (l.take k) ++ byC (l.drop k) := by rw [← byC_app, List.take_append_drop]
  have hl : (byC (l.take k)).length = k := by rw [byC_len, List.length_take]; omega
  rw [e, List.getElem?_append_right (by omega), hl, Nat.add_sub_cancel_left]
  exact hj
theorem RdS.keep {w w' : World} {B : Nat} {l : List UInt8} (h : RdS w B l) {p : Nat → Prop} (hk : Keep p w w') (hp : ∀ k, k ≤ B → p k) : RdS w' B l := by
  obtain ⟨⟨v, h1, h2⟩, h3, h4⟩ := h
  have hb := hk.block B h4 (hp B (Nat.le_refl _))
  refine ⟨⟨v, (World.cell?_of_block (a := ⟨B, 0, none⟩) hb).trans h1, h2.keep ⟨hk.os, hk.tape, hk.output, hk.size, fun k hlt hb => hk.block k hlt (hp k (Nat.le_of_lt hb))⟩⟩, ?_, Nat.lt_of_lt_of_le h4 hk.size⟩
  have : w'.frozen? ⟨B, 0, none⟩ = w.frozen? ⟨B, 0, none⟩ := by simp only [World.frozen?, hb]
  rw [this]
  exact h3
theorem RdS.below {w w' : World} {B : Nat} {l : List UInt8} (h : RdS w B l) (hb : Below w.heap.size w w') : RdS w' B l := h.keep (p := fun _ => True) (Keep.of_below hb) fun _ _ => trivial
theorem keep_set (w : World) (B : Nat) (v : Value) : Keep (fun k => k ≠ B) w (w.setCell ⟨B, 0, none⟩ v) :=
  ⟨rfl, rfl, rfl, by simp, fun k hk hne => by rw [Below.heap_setCell _ _ _ _ hne]⟩
theorem RdS.set {w : World} {B : Nat} {l l' : List UInt8} {v : Value} (h : RdS w B l) (hv : SB w B v l') : RdS (w.setCell ⟨B, 0, none⟩ v) B l' := by
  obtain ⟨⟨u, h1, h2⟩, h3, h4⟩ := h
  exact ⟨⟨v, World.cell?_setCell_same' _ _ _ (by rw [h1]; rfl), hv.keepB (keep_set w B v)⟩, by rw [World.frozen?_setCell]; exact h3, by simpa using h4⟩

/-- so many bytes were read -/
def NextR (B n : Nat) (l : List UInt8) (w : World) (e : Ending) (w' : World) : Prop := ∃ v, e = .returned v ∧ SB w' B v (l.take n) ∧ RdS w' B (l.drop n) ∧ Keep (fun k => k ≠ B) w w'

set_option maxHeartbeats 1000000 in
theorem next_any {w : World} {B : Nat} {l : List UInt8} (h : RdS w B l) (n : Nat) (hn : n ≤ 281474976710656) (hl : l.length ≤ 281474976710656) : Calls Try.prog 80 #[.int .i64 n, .pointer (some ⟨B, 0, none⟩)] w (NextR B n l w) := by
  unfold NextR
  have H := Lib.hid h
  obtain ⟨⟨v, c0, hv⟩, f0, hlt⟩ := h
  have HV := Lib.hid hv
  obtain ⟨A, c, rfl, hc, _, hA⟩ := hv
  obtain ⟨m, hM⟩ : ∃ m, l.length = m := ⟨_, rfl⟩
  have HM := Lib.hid hM
  rw [hM] at c0 HV hc hl
  clear hM
  obtain ⟨k, hk⟩ : ∃ k, min n m = k := ⟨_, rfl⟩
  have hkz : min (n : Int) (m : Int) = (k : Int) := by omega
  have hkm : k ≤ m := by omega
  have hkc : k ≤ c := by omega
  have HT := Lib.hid (show l.take n = l.take k ∧ l.drop n = l.drop k by
    rw [← hk]
    by_cases h : n ≤ m
    · rw [Nat.min_eq_left h]; exact ⟨rfl, rfl⟩
    · rw [Nat.min_eq_right (by omega), List.take_of_length_le (by rw [HM.out]; omega), List.take_of_length_le (by rw [HM.out]; exact Nat.le_refl _), List.drop_eq_nil_of_le (by rw [HM.out]; omega), List.drop_eq_nil_of_le (by rw [HM.out]; exact Nat.le_refl _)]
      exact ⟨rfl, rfl⟩)
  rw [HT.out.1, HT.out.2]
  cases A with
  | none =>
    have hc0 : c = 0 := hA rfl
    subst hc0
    obtain rfl : m = 0 := by omega
    obtain rfl : k = 0 := by omega
    have hl0 : l = [] := List.eq_nil_of_length_eq_zero HM.out
    subst hl0
    have hfin : SB (w.setCell ⟨B, 0, none⟩ (.slice none 0 0)) B (.slice none 0 0) [] := ⟨none, 0, rfl, Nat.le_refl _, fun h => absurd h (by simp), fun _ => rfl⟩
    have HF := Lib.hid hfin
    have HR := Lib.hid (H.out.set (v := .slice none 0 0) HV.out)
    clear hfin hc hA hl
    have hkz0 : min (n : Int) 0 = 0 := by omega
    go_enter Try.func80, Try.ntmps80
    go_wp2_with fail
    go_ret
    exact ⟨_, rfl, HF.out, HR.out, keep_set w B _⟩
  | some ad =>
    have HS := Lib.hid (And.intro (HV.out.take hkm) (HV.out.drop hkm))
    clear hA
    by_cases hck : c = k
    · have HD := Lib.hid (show SB w B (.slice (some ad) 0 0) (l.drop k) by have h1 := HS.out.2; have h2 : m - k = 0 := (by omega); rw [if_pos hck, hck, Nat.sub_self, h2] at h1; exact h1)
      subst hck
      go_enter Try.func80, Try.ntmps80
      go_wp2_with fail
      go_ret
      exact ⟨_, rfl, HS.out.1.keepB (keep_set w B _), H.out.set HD.out, keep_set w B _⟩
    · have HD := Lib.hid (show SB w B (.slice (some (ad.add k)) (m - k) (c - k)) (l.drop k) by have := HS.out.2; rwa [if_neg hck] at this)
      have hck2 : ¬ c - k = 0 := by omega
      go_enter Try.func80, Try.ntmps80
      go_wp2_with fail
      go_ret
      exact ⟨_, rfl, HS.out.1.keepB (keep_set w B _), H.out.set HD.out, keep_set w B _⟩

/-! ### a number -/
theorem beN_take {l : List UInt8} {k : Nat} (h : k < l.length) : beN (l.take (k + 1)) = beN (l.take k) * 256 + (l[k].toNat : Int) := by
  rw [List.take_succ_eq_append_getElem h]
  unfold beN
  rw [List.foldl_append]
  rfl
theorem beN_bound : ∀ (l : List UInt8), 0 ≤ beN l ∧ beN l < 256 ^ l.length := by
  intro l
  suffices h : ∀ (l : List UInt8) (s : Int), 0 ≤ s → 0 ≤ l.foldl (fun s c => s * 256 + (c.toNat : Int)) s ∧ l.foldl (fun s c => s * 256 + (c.toNat : Int)) s < (s + 1) * 256 ^ l.length by
    have := h l 0 (by omega)
    rw [show ((0 : Int) + 1) * 256 ^ l.length = 256 ^ l.length by rw [Int.zero_add, Int.one_mul]] at this
    exact this
  intro l
  induction l with
  | nil => intro s hs; simp; omega
  | cons c l ih =>
    intro s hs
    have hc := c.toNat_lt
    have h := ih (s * 256 + (c.toNat : Int)) (by omega)
    simp only [List.foldl_cons, List.length_cons]
    refine ⟨h.1, Int.lt_of_lt_of_le h.2 ?_⟩
    rw [Int.pow_succ', ← Int.mul_assoc]
    exact Int.mul_le_mul_of_nonneg_right (by omega) (Int.pow_nonneg (by omega))
theorem beN_small {l : List UInt8} (h : l.length ≤ 6) : beN l < 281474976710656 := by
  have := (beN_bound l).2
  generalize beN l = x at this ⊢
  generalize l.length = n at this h
  have hn : n = 0 ∨ n = 1 ∨ n = 2 ∨ n = 3 ∨ n = 4 ∨ n = 5 ∨ n = 6 := by omega
  rcases hn with rfl | rfl | rfl | rfl | rfl | rfl | rfl <;> simp at this <;> omega
theorem or_byte (s c : Int) (h0 : 0 ≤ s) (h1 : s < 1099511627776) (c0 : 0 ≤ c) (c1 : c < 256) : bits .or .i64 (s * 256) c = s * 256 + c :=
  bits_join .i64 63 (by decide) (fun n a b => by rw [IntKind.wrap_i64]; omega) 8 (s * 256) c (by omega) (by omega) (by omega) (by omega) (by omega) (by omega)

def NumR (B n : Nat) (l : List UInt8) (w : World) (e : Ending) (w' : World) : Prop := e = .returned (.int .i64 (beN (l.take n))) ∧ RdS w' B (l.drop n) ∧ Keep (fun k => k ≠ B) w w'

set_option maxHeartbeats 1000000 in
theorem number_any {w : World} {B N : Nat} {l : List UInt8} (h : RdS w B l) (hN : w.cell? ⟨N, 0, none⟩ = some (.func (.func 80) #[] #[.pointer (some ⟨B, 0, none⟩)])) (n : Nat) (hn : n ≤ 6) (hl : l.length ≤ 281474976710656) : Calls Try.prog 81 #[.int .i64 n, .pointer (some ⟨N, 0, none⟩)] w (NumR B n l w) := by
  unfold NumR
  have hfn := next_any h n (by omega) hl
  unfold NextR at hfn
  have hL6 : (l.take n).length ≤ 6 := by rw [List.length_take]; omega
  generalize l.take n = L at hfn hL6 ⊢
  generalize l.drop n = D at hfn ⊢
  obtain ⟨m, hM⟩ : ∃ m, L.length = m := ⟨_, rfl⟩
  have HM := Lib.hid hM
  rw [hM] at hL6
  have FN := Lib.hid hfn
  clear h hfn hM
  go_enter Try.func81, Try.ntmps81
  go_wp2_with (go_at_call 80; refine FN.out.mono ?_; clear FN; rintro e w1 ⟨v, rfl, h1, h2, h3⟩; have HV := Lib.hid h1.br; have HR := Lib.hid (And.intro h2 h3); clear h1 h2 h3; obtain ⟨A, c, hf⟩ := HV.out.form; rw [HM.out] at hf; subst hf)
  go_loop [4, 11] (fun s i => ∃ k : Nat, k ≤ m ∧ i = .int .i64 k ∧ s = .int .i64 (beN (L.take k))) (fun _ i => m - (Lib.intOf i).toNat)
  case atStart => exact ⟨0, Nat.zero_le _, rfl, rfl⟩
  case round =>
    obtain ⟨k, hk, rfl, rfl⟩ := hrel
    by_cases hlt : k < m
    · have e1 : k < L.length := by rw [HM.out]; exact hlt
      obtain ⟨ad, f1, _, q0⟩ := BR.at1 HV.out e1
      subst f1
      obtain ⟨c1, hc1⟩ : ∃ c, L[k] = c := ⟨_, rfl⟩
      have HST : Hid (beN (L.take (k + 1)) = beN (L.take k) * 256 + (c1.toNat : Int)) := by
        show _ = _
        rw [beN_take e1, hc1]
      rw [hc1] at q0
      have hb1 := (beN_bound (L.take k)).1
      have hb2 : beN (L.take k) < 1099511627776 := by
        have h5 : (L.take k).length ≤ 5 := by rw [List.length_take]; omega
        have := (beN_bound (L.take k)).2
        generalize beN (L.take k) = x at this ⊢
        generalize (L.take k).length = q at this h5
        have hq : q = 0 ∨ q = 1 ∨ q = 2 ∨ q = 3 ∨ q = 4 ∨ q = 5 := by omega
        rcases hq with rfl | rfl | rfl | rfl | rfl | rfl <;> simp at this <;> omega
      obtain ⟨x, hx⟩ : ∃ x, beN (L.take k) = x := ⟨_, rfl⟩
      rw [hx] at hb1 hb2 HST ⊢
      have hor := or_byte x (c1.toNat : Int) hb1 hb2 (by omega) (by have := c1.toNat_lt; omega)
      have hwc : IntKind.i64.wrap (c1.toNat : Int) = (c1.toNat : Int) := by rw [IntKind.wrap_i64]; have := c1.toNat_lt; omega
      have hwr : IntKind.i64.wrap (x * 256) = x * 256 := by rw [IntKind.wrap_i64]; omega
      clear hx hc1
      go_wp2_with fail
      go_round
      case rel => exact ⟨k + 1, by omega, by go_num, by rw [HST.out]⟩
      case measure => simp [Lib.intOf]; omega
    · obtain rfl : k = m := by omega
      rw [List.take_of_length_le (by rw [HM.out]; exact Nat.le_refl _)]
      go_wp2_with fail
      go_ret
      exact ⟨rfl, HR.out.1, HR.out.2⟩
end Go.Proofs.Ytpoefcpgcojppaa
