/- A row turned around; the kit's Pick; what two bags hold behind a cut. -/
import Derived.Test.YtfcdgfjpmcapkaaGreatCI
namespace Go.Proofs.YtfcdgfjpmcapkaaGreat
open Go.ChangeShapes Go.WideShapes Go.ChangeAt Go.RowKit
set_option linter.unusedVariables false

def rt (l : List Et) (k : Nat) : List Et := l.drop k ++ l.take k
theorem rt_perm (l : List Et) (k : Nat) : (rt l k).Perm l := by
  have := List.perm_append_comm (l₁ := l.drop k) (l₂ := l.take k)
  rwa [List.take_append_drop] at this
theorem rt_len (l : List Et) (k : Nat) : (rt l k).length = l.length := (rt_perm l k).length_eq
theorem rt_at {l : List Et} {k i : Nat} (hk : k < l.length) (hi : i < l.length) : ge (rt l k) i = ge l ((i + k) % l.length) := by
  unfold rt
  by_cases h : i < l.length - k
  · rw [Nat.mod_eq_of_lt (by omega)]
    unfold ge
    rw [List.getElem?_append_left (by rw [List.length_drop]; exact h), List.getElem?_drop, Nat.add_comm]
  · have e : (i + k) % l.length = i + k - l.length := by
      rw [Nat.mod_eq_sub_mod (by omega), Nat.mod_eq_of_lt (by omega)]
    rw [e]
    unfold ge
    rw [List.getElem?_append_right (by simp; omega), List.length_drop, List.getElem?_take_of_lt (by omega), show i - (l.length - k) = i + k - l.length by omega]

theorem tmod_or (x n : Int) (h : x < 0) (hn : 1 ≤ n) : (x.tmod n = 0 ∧ x % n = 0) ∨ (x.tmod n < 0 ∧ -n < x.tmod n ∧ x % n = x.tmod n + n) := by
  have e := Int.tmod_eq_emod (a := x) (b := n)
  have b1 := Int.emod_nonneg x (show n ≠ 0 by omega)
  have b2 := Int.emod_lt_of_pos x (show 0 < n by omega)
  by_cases hd : n ∣ x
  · rw [if_pos (.inr hd)] at e
    have := Int.emod_eq_zero_of_dvd hd
    omega
  · rw [if_neg (by rintro (h1 | h1); omega; exact hd h1)] at e
    have hne : x % n ≠ 0 := fun h0 => hd (Int.dvd_of_emod_eq_zero h0)
    have hab : (n.natAbs : Int) = n := by omega
    rw [hab] at e
    omega

theorem pick_any (x n : Int) (w : World) (n1 : 1 ≤ n) (n2 : n ≤ 1099511627776) :
    Calls Tryz.prog 10 #[.int .i64 x, .int .i64 n] w fun e w' => e = .returned (.int .i64 (x % n)) ∧ w' = w := by
  by_cases h0 : 0 ≤ x
  · have b1 := Int.emod_nonneg x (show n ≠ 0 by omega)
    have b2 := Int.emod_lt_of_pos x (show 0 < n by omega)
    go_enter Tryz.func10, Tryz.ntmps10
    go_wp2
    go_ret
    exact ⟨rfl, rfl⟩
  · rcases tmod_or x n (by omega) n1 with ⟨h1, h2⟩ | ⟨h1, h2, h3⟩
    · have H1 := Lib.hid h1
      have H2 := Lib.hid h2
      have h3 : 0 ≤ x.tmod n := by omega
      have h4 : x.tmod n ≤ 0 := by omega
      clear h1 h2
      go_enter Tryz.func10, Tryz.ntmps10
      go_wp2
      go_ret
      exact ⟨ret_int (by rw [H1.out, H2.out]), rfl⟩
    · have H3 := Lib.hid h3
      clear h3
      go_enter Tryz.func10, Tryz.ntmps10
      go_wp2
      go_ret
      exact ⟨ret_int (by rw [H3.out]), rfl⟩

theorem pick_zero (x : Int) (w : World) : Calls Tryz.prog 10 #[.int .i64 x, .int .i64 0] w fun e w' => e = .returned (.int .i64 0) ∧ w' = w := by
  go_enter Tryz.func10, Tryz.ntmps10
  go_wp2
  go_ret
  exact ⟨rfl, rfl⟩

/-- the kit's Pick of a length -/
theorem pick_of (x : Int) (n : Nat) (hn : n ≤ 1000000) : ∃ k0 : Nat, (0 < n → k0 < n) ∧ ∀ W : World, Calls Tryz.prog 10 #[.int .i64 x, .int .i64 n] W fun e w' => e = .returned (.int .i64 (k0 : Int)) ∧ w' = W := by
  by_cases h0 : n = 0
  · subst h0
    exact ⟨0, fun h => h, fun W => pick_zero x W⟩
  · have h1 := Int.emod_nonneg x (show (n : Int) ≠ 0 by omega)
    have h2 := Int.emod_lt_of_pos x (show (0 : Int) < (n : Int) by omega)
    refine ⟨(x % (n : Int)).toNat, fun _ => by omega, fun W => ?_⟩
    rw [show (((x % (n : Int)).toNat : Nat) : Int) = x % (n : Int) by omega]
    exact pick_any x n W (by omega) (by omega)

/-! ### what is left behind a cut -/

theorem cut_rt (l : List Et) (k : Nat) (c : Int) : (rt l k).foldl (stepC c) [] = cutS (putsS [] l) c := by
  rw [← puts_perm (rt_perm l k), cut_puts c _ Sd.nil]
  rfl
theorem step_snoc {l : List Et} {q : Nat} (hq : q < l.length) (c : Int) : (l.take (q + 1)).foldl (stepC c) [] = stepC c ((l.take q).foldl (stepC c) []) (ge l q) := by
  rw [List.take_succ_eq_append_getElem hq, ← ge_get hq, List.foldl_append]
  rfl
theorem cut_put_one {S : List Et} (hs : Sd S) (x : Et) (c : Int) : cutS (putsS S [x]) c = stepC c (cutS S c) x := cut_put hs x c
theorem rt_we {l : List Et} {k : Nat} (h : ∀ i, i < l.length → We (ge l i)) (q : Nat) (hq : q < l.length) : We (ge (rt l k) q) := by
  have hm : ge (rt l k) q ∈ l := (rt_perm l k).mem_iff.1 (ge_mem (by rw [rt_len]; exact hq))
  obtain ⟨i, hi, e⟩ := List.getElem_of_mem hm
  rw [← e, ← ge_get hi]
  exact h i hi
theorem puts_we' {l : List Et} (h : ∀ i, i < l.length → We (ge l i)) : ∀ x ∈ putsS [] l, We x := puts_we l (fun y hy => by cases hy) fun x hx => by
  obtain ⟨k, hk, rfl⟩ := List.getElem_of_mem hx
  rw [← ge_get hk]
  exact h k hk
theorem rise_at {S : List Et} (h : Sd S) {i : Nat} (hi : i + 1 < S.length) : pb (ge S i) (ge S (i + 1)) = true := by
  rw [ge_get hi, ge_get (by omega)]
  exact List.pairwise_iff_getElem.1 h i (i + 1) (by omega) hi (by omega)
theorem fnd_at {S : List Et} (h : Sd S) {x : Et} (hx : x ∈ S) : fnd S x.1 x.2.1 = some x.2.2 := h.fnd (by obtain ⟨a, b, c⟩ := x; exact hx)
theorem cut_again (S : List Et) (c : Int) : cutS (cutS S c) c = cutS S c := cut_cut (Int.le_refl c)
end Go.Proofs.YtfcdgfjpmcapkaaGreat
