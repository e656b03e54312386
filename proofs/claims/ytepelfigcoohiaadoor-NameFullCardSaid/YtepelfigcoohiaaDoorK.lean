/- The decimal numerals, as texts: each another one; none is a letter. -/
import Derived.Test.YtepelfigcoohiaaDoorJ
import Derived.Test.YtepelfigcoohiaaDoorShelf
import Derived.Lib.AppendIntMem
import Derived.Lib.ItoaLen
import Derived.Lib.ItoaMem
namespace Go.Proofs.YtepelfigcoohiaaDoor
open Go.ChangeShapes Go.WideShapes Go.ChangeAt Go.RowKit Go.Maps Go.Shelf
set_option linter.unusedVariables false

/-- a number's numeral -/
def tx (k : Nat) : ByteArray := ⟨(Lib.itoa (k : Int)).toArray⟩
/-- the numerals of the first n numbers -/
def T (n : Nat) : List ByteArray := (List.range n).map tx

theorem tx_list (k : Nat) : (tx k).data.toList = Lib.decDigits k := by
  unfold tx
  rw [Lib.itoa_nonneg]

theorem dd_last (u : Nat) : ∃ l, Lib.decDigits u = l ++ [UInt8.ofNat (48 + u % 10)] := by
  rw [Lib.decDigits]
  split
  · rename_i h
    exact ⟨[], by rw [Nat.mod_eq_of_lt h]; rfl⟩
  · exact ⟨_, rfl⟩

theorem dd_inj : ∀ (n u v : Nat), u < n → Lib.decDigits u = Lib.decDigits v → u = v
  | 0, u, v, h, _ => by omega
  | n + 1, u, v, h, e => by
    have hv : ∀ a b : Nat, a < 10 → b < 10 → UInt8.ofNat (48 + a) = UInt8.ofNat (48 + b) → a = b := by
      intro a b ha hb he
      have := congrArg UInt8.toNat he
      simp at this
      omega
    have hne : ∀ u, Lib.decDigits u ≠ [] := fun u hu => by obtain ⟨l, hl⟩ := dd_last u; rw [hl] at hu; simp at hu
    by_cases h1 : u < 10
    · by_cases h2 : v < 10
      · rw [Lib.decDigits_one h1, Lib.decDigits_one h2] at e
        exact hv u v h1 h2 (by simpa using e)
      · exfalso
        rw [Lib.decDigits_one h1, Lib.decDigits.eq_def v, dif_neg h2] at e
        have := congrArg List.length e
        have h3 : 0 < (Lib.decDigits (v / 10)).length := List.length_pos_iff.2 (hne _)
        rw [List.length_append] at this
        simp only [List.length_cons, List.length_nil] at this
        omega
    · by_cases h2 : v < 10
      · exfalso
        rw [Lib.decDigits_one h2, Lib.decDigits.eq_def u, dif_neg h1] at e
        have := congrArg List.length e
        have h3 : 0 < (Lib.decDigits (u / 10)).length := List.length_pos_iff.2 (hne _)
        rw [List.length_append] at this
        simp only [List.length_cons, List.length_nil] at this
        omega
      · rw [Lib.decDigits.eq_def u, Lib.decDigits.eq_def v, dif_neg h1, dif_neg h2] at e
        obtain ⟨e1, e2⟩ := List.append_inj' e rfl
        have k1 := dd_inj n (u / 10) (v / 10) (by omega) e1
        have k2 := hv (u % 10) (v % 10) (by omega) (by omega) (by simpa using e2)
        omega

theorem tx_inj {j k : Nat} (h : tx j = tx k) : j = k :=
  dd_inj (j + 1) j k (by omega) (by rw [← tx_list, ← tx_list, h])

theorem tx_size (k : Nat) (h : k ≤ 65536) : (tx k).size ≤ 140737488355328 := by
  have := Lib.itoa_length_le (k : Int) (by omega) (by omega)
  unfold tx
  show (Lib.itoa (k : Int)).toArray.size ≤ _
  rw [List.size_toArray]
  omega

theorem tx_not (k : Nat) (c : UInt8) (hc : 58 ≤ c.toNat) : tx k ≠ ⟨#[c]⟩ := by
  intro e
  have h1 : Lib.decDigits k = [c] := by rw [← tx_list, e]
  obtain ⟨l, hl⟩ := dd_last k
  rw [hl] at h1
  have h2 : l = [] := by
    have := congrArg List.length h1
    rw [List.length_append] at this
    simp only [List.length_cons, List.length_nil] at this
    exact List.eq_nil_of_length_eq_zero (by omega)
  subst h2
  have h3 : UInt8.ofNat (48 + k % 10) = c := by simpa using h1
  rw [← h3] at hc
  simp at hc
  omega

theorem tx0 : tx 0 = ⟨#[48]⟩ := ByteArray.ext (Array.ext' (by rw [tx_list, Lib.decDigits_one (by omega)]; rfl))
theorem tx7 : tx 7 = ⟨#[55]⟩ := ByteArray.ext (Array.ext' (by rw [tx_list, Lib.decDigits_one (by omega)]; rfl))

theorem T_len (n : Nat) : (T n).length = n := by simp [T]
theorem T_succ (n : Nat) : T (n + 1) = T n ++ [tx n] := by simp [T, List.range_succ]
theorem T_get (n k : Nat) (h : k < (T n).length) : (T n)[k] = tx k := by simp [T]
theorem T_mem {n : Nat} {s : ByteArray} : s ∈ T n ↔ ∃ k, k < n ∧ tx k = s := by simp [T]
theorem T_nodup (n : Nat) : (T n).Nodup := by
  unfold T
  rw [List.nodup_iff_pairwise_ne, List.pairwise_map]
  exact List.Pairwise.imp (fun h e => absurd (tx_inj e) (by omega)) (List.pairwise_lt_range (n := n))
theorem T_not (n : Nat) (c : UInt8) (hc : 58 ≤ c.toNat) : ¬ (⟨#[c]⟩ : ByteArray) ∈ T n := fun h => by
  obtain ⟨k, _, e⟩ := T_mem.1 h
  exact tx_not k c hc e

theorem num_T {n k : Nat} (h : k < n) (M : List ByteArray) : numOf (T n ++ M) (tx k) = k := by
  have hm : tx k ∈ T n := T_mem.2 ⟨k, h, rfl⟩
  rw [numOf_app hm]
  have h1 := numOf_get hm
  rw [T_get] at h1
  exact tx_inj h1

/-- texts that are new, each once, are told as they are -/
theorem foldl_new (L : List ByteArray) : ∀ (l F : List ByteArray), l.Nodup → (∀ s ∈ l, ¬ s ∈ L ∧ ¬ s ∈ F) → l.foldl (frS L) F = F ++ l
  | [], F, _, _ => by simp
  | s :: l, F, hn, h => by
    obtain ⟨h1, h2⟩ := h s (by simp)
    rw [List.nodup_cons] at hn
    rw [List.foldl_cons, frS_new h1 h2, foldl_new L l (F ++ [s]) hn.2 (fun t ht => ⟨(h t (by simp [ht])).1, ?_⟩)]
    · simp
    · rw [List.mem_append, List.mem_singleton]
      rintro (h3 | rfl)
      · exact (h t (by simp [ht])).2 h3
      · exact hn.1 ht
theorem fr_T : fr [] (T 65534) = T 65534 := by
  unfold fr
  rw [foldl_new [] _ [] (T_nodup _) (fun s _ => ⟨List.not_mem_nil, List.not_mem_nil⟩)]
  exact List.nil_append _

def tD : ByteArray := ⟨#[100]⟩
def t7 : ByteArray := ⟨#[55]⟩
def t0 : ByteArray := ⟨#[48]⟩

/-- a book of all numbers but two -/
structure Full (L : List ByteArray) : Prop where
  len : L.length = 65534
  nA : ¬ tA ∈ L
  nB : ¬ tB ∈ L
  nC : ¬ tC ∈ L
  nD : ¬ tD ∈ L
  m7 : t7 ∈ L
  m0 : t0 ∈ L
  n7 : numOf L t7 = 7
  n0 : numOf L t0 = 0

theorem full_T : Full (T 65534) where
  len := T_len _
  nA := T_not _ 97 (by decide)
  nB := T_not _ 98 (by decide)
  nC := T_not _ 99 (by decide)
  nD := T_not _ 100 (by decide)
  m7 := T_mem.2 ⟨7, by omega, tx7⟩
  m0 := T_mem.2 ⟨0, by omega, tx0⟩
  n7 := by have := num_T (n := 65534) (k := 7) (by omega) []; rw [tx7, List.append_nil] at this; exact this
  n0 := by have := num_T (n := 65534) (k := 0) (by omega) []; rw [tx0, List.append_nil] at this; exact this

theorem book0 : bookL [] (T 65534) = T 65534 := by unfold bookL; rw [fr_T]; exact List.nil_append _
theorem fit0 : ([] : List ByteArray).length + (fr [] (T 65534)).length ≤ 65536 := by rw [fr_T, T_len, List.length_nil]; omega

theorem mB1 (L : List ByteArray) : tB ∈ L ++ [tA, tB] := by rw [List.mem_append]; right; decide
theorem mA1 (L : List ByteArray) : tA ∈ L ++ [tA, tB] := by rw [List.mem_append]; right; decide

section
variable {L : List ByteArray} (h : Full L)
include h
theorem Full.m01 : t0 ∈ L ++ [tA, tB] := by rw [List.mem_append]; left; exact h.m0
theorem Full.nD1 : ¬ tD ∈ L ++ [tA, tB] := by rw [List.mem_append]; rintro (h2 | h2); exact h.nD h2; revert h2; decide
theorem Full.fr_1 : fr L [tA, tB, tA, tC] = [tA, tB, tC] := by
  unfold fr
  simp only [List.foldl_cons, List.foldl_nil]
  rw [frS_new h.nA List.not_mem_nil, List.nil_append, frS_new h.nB (by decide), frS_old (s := tA) (.inr (by decide)), frS_new h.nC (by decide)]
  rfl
theorem Full.fr_2 : fr L [tA, t7, tA, tB] = [tA, tB] := by
  unfold fr
  simp only [List.foldl_cons, List.foldl_nil]
  rw [frS_new h.nA List.not_mem_nil, List.nil_append, frS_old (s := t7) (.inl h.m7), frS_old (s := tA) (.inr (by decide)), frS_new h.nB (by decide)]
  rfl
theorem Full.fr_3 : fr (L ++ [tA, tB]) [tA, tD] = [tD] := by
  unfold fr
  simp only [List.foldl_cons, List.foldl_nil]
  rw [frS_old (.inl (mA1 _)), frS_new h.nD1 List.not_mem_nil, List.nil_append]
theorem Full.fr_4 : fr (L ++ [tA, tB]) [tB, t0] = [] := by
  unfold fr
  simp only [List.foldl_cons, List.foldl_nil]
  rw [frS_old (s := tB) (.inl (mB1 _)), frS_old (.inl h.m01)]
theorem Full.len1 : (L ++ [tA, tB]).length = 65536 := by rw [List.length_append, h.len]; rfl
theorem Full.big1 : 65536 < L.length + (fr L [tA, tB, tA, tC]).length := by rw [h.fr_1, h.len]; decide
theorem Full.fit2 : L.length + (fr L [tA, t7, tA, tB]).length ≤ 65536 := by rw [h.fr_2, h.len]; decide
theorem Full.big3 : 65536 < (L ++ [tA, tB]).length + (fr (L ++ [tA, tB]) [tA, tD]).length := by rw [h.fr_3, h.len1]; decide
theorem Full.fit4 : (L ++ [tA, tB]).length + (fr (L ++ [tA, tB]) [tB, t0]).length ≤ 65536 := by rw [h.fr_4, h.len1]; decide
theorem Full.book2 : bookL L [tA, t7, tA, tB] = L ++ [tA, tB] := by unfold bookL; rw [h.fr_2]
theorem Full.book4 : bookL (L ++ [tA, tB]) [tB, t0] = L ++ [tA, tB] := by unfold bookL; rw [h.fr_4]; exact List.append_nil _
theorem Full.numA : numOf (L ++ [tA, tB]) tA = 65534 := by
  have e : L ++ [tA, tB] = (L ++ [tA]) ++ [tB] := by rw [List.append_assoc]; rfl
  rw [e, numOf_app (by rw [List.mem_append]; right; simp), numOf_new h.nA, h.len]
theorem Full.numB : numOf (L ++ [tA, tB]) tB = 65535 := by
  have e : L ++ [tA, tB] = (L ++ [tA]) ++ [tB] := by rw [List.append_assoc]; rfl
  rw [e, numOf_new (by rw [List.mem_append]; rintro (h2 | h2); exact h.nB h2; revert h2; decide), List.length_append, h.len]
  rfl
theorem Full.num7 : numOf (L ++ [tA, tB]) t7 = 7 := by rw [numOf_app h.m7, h.n7]
theorem Full.num0 : numOf (L ++ [tA, tB]) t0 = 0 := by rw [numOf_app h.m0, h.n0]
theorem Full.nums2 : numsL L [tA, t7, tA, tB] = [65534, 7, 65534, 65535] := by
  unfold numsL
  rw [h.book2]
  simp only [List.map_cons, List.map_nil, h.numA, h.numB, h.num7]
  rfl
theorem Full.nums4 : numsL (L ++ [tA, tB]) [tB, t0] = [65535, 0] := by
  unfold numsL
  rw [h.book4]
  simp only [List.map_cons, List.map_nil, h.numB, h.num0]
  rfl
end
end Go.Proofs.YtepelfigcoohiaaDoor
