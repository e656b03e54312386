/- Small facts for what the law of labels walks over. -/
import Derived.Test.YtnohnkhhkeikoaaSX
import Derived.Test.YtnohnkhhkeikoaaLB
import Derived.IntWalk
namespace Go.Proofs.Ytnohnkhhkeikoaa
open Go.ChangeShapes Go.WideShapes Go.ChangeAt Go.RowKit
set_option linter.unusedVariables false
set_option linter.unusedSimpArgs false

attribute [local go_sem] Oper.semAt_some

/-- a row of its own, told as a row of texts -/
theorem own_SR {w : World} {base : Nat} {v : Value} {l : List ByteArray} (h : w.ownsRow base 9 1 v l.length (l.map Value.string)) : SR w.heap.size w v l := by
  rcases h.2 with ⟨rfl, h0⟩ | ⟨g, cap, cur, rfl, hb, hg, h1, h2, h3, h4⟩
  · exact ⟨none, 0, by rw [h0], fun h => by omega⟩
  · refine ⟨_, cap, rfl, fun _ => ⟨⟨g, 0, none⟩, rfl, (Array.getElem?_eq_some_iff.1 hg).1, fun k hk => ?_⟩⟩
    have e : (cur.toList.take (l.length * 1))[k]? = (l.map Value.string)[k]? := by rw [h4]
    rw [List.getElem?_take_of_lt (by omega)] at e
    have e2 : cur[k]? = some (.string l[k]) := by rw [← Array.getElem?_toList, e]; simp [hk]
    have hk2 : k < cur.size := by omega
    have := cell_of_row w g k cur 9 _ hg
    have e3 : (⟨g, 0, none⟩ : Addr).add k = ⟨g, k, none⟩ := by
      unfold Addr.add
      split
      · next h0 => subst h0; rfl
      · simp
    rw [e3, this]
    exact e2
theorem geS (W : World) (a b : ByteArray) (h : ¬ b.data.toList ≤ a.data.toList) : (binOp .geq 9 (.string a) (.string b)).run Try.prog W = .ok (.bool false) W := by
  have h2 : a.data.toList < b.data.toList := List.not_le.1 h
  have h1 : Op.bytesLess a.toList b.toList = true := by rw [bytesLess_eq, Lib.toList_data, Lib.toList_data]; simpa using h2
  simp [binOp, go_sem, Op.stringOp, h1]
theorem takes_nil (x : X) : takesB x [] = (x.right && x.emp) := by
  by_cases hr : x.right = true
  · rw [hr, Bool.true_and]
    apply bool_ext
    rw [takesB_iff, emp_iff x (right_good hr).1]
    exact ⟨fun h => h.2, fun h => ⟨hr, h⟩⟩
  · have h1 : x.right = false := by simpa using hr
    unfold takesB
    rw [h1]; rfl
/-- all below n -/
def andN (f : Nat → Bool) : Nat → Bool
  | 0 => true
  | n + 1 => andN f n && f n
theorem andN_iff (f : Nat → Bool) : ∀ n, andN f n = true ↔ ∀ k, k < n → f k = true
  | 0 => by simp [andN]
  | n + 1 => by
    rw [andN, Bool.and_eq_true, andN_iff f n]
    constructor
    · rintro ⟨h1, h2⟩ k hk
      rcases Nat.lt_or_ge k n with h | h
      · exact h1 k h
      · obtain rfl : k = n := by omega
        exact h2
    · exact fun h => ⟨fun k hk => h k (by omega), h n (by omega)⟩
theorem SR_nil (W : World) : SR 0 W (.slice none 0 0) [] := ⟨none, 0, rfl, fun h => absurd h (Nat.lt_irrefl _)⟩
theorem sameX_comm (x y : X) : sameX y x = sameX x y := bool_ext (by rw [sameX_iff, sameX_iff]; exact ⟨fun h => h.symm, fun h => h.symm⟩)
/-- whether the j-th label of L is the i-th one of the word -/
def fnd (L word : Wd) (i j : Nat) : Bool := ((L[j]?).getD ⟨#[]⟩).toList == ((word[i]?).getD ⟨#[]⟩).toList
theorem fnd_eq {L word : Wd} {i j : Nat} (hj : j < L.length) (hi : i < word.length) : fnd L word i j = (L[j].toList == word[i].toList) := by
  unfold fnd
  rw [List.getElem?_eq_getElem hj, List.getElem?_eq_getElem hi]; rfl
theorem same_text {a b : ByteArray} : (a.toList == b.toList) = true ↔ a = b := by
  constructor
  · intro h
    have h1 : a.toList = b.toList := by simpa using h
    have h2 : a.data.toList = b.data.toList := by rw [← ByteArray.toList_eq, ← ByteArray.toList_eq]; exact h1
    exact ByteArray.ext (Array.toList_inj.1 h2)
  · intro h; subst h; simp
theorem labs_facts (a : X) : ∃ L : Wd, a.labs = L ∧ L.length ≤ a.sz ∧ (a.right = false → L = []) ∧ (a.right = true → ∀ s, s ∈ L ↔ s ∈ labR a.parts) ∧ ∀ (i : Nat) (hj : i + 1 < L.length), ¬ (L[i + 1]'hj).data.toList ≤ (L[i]'(by omega)).data.toList :=
  ⟨_, rfl, labs_len a, labs_wrong, fun h s => labs_mem h s, fun i hj => labs_rises a (Nat.lt_succ_self i) hj⟩
theorem kn_iff (L word : Wd) : andN (fun i => orN (fnd L word i) L.length) word.length = true ↔ ∀ s ∈ word, s ∈ L := by
  rw [andN_iff]
  constructor
  · intro h s hs
    obtain ⟨i, hi, rfl⟩ := List.getElem_of_mem hs
    obtain ⟨j, hj, hf⟩ := (orN_iff _ _).1 (h i hi)
    rw [fnd_eq hj hi] at hf
    rw [← same_text.1 hf]
    exact List.getElem_mem _
  · intro h i hi
    obtain ⟨j, hj, e⟩ := List.getElem_of_mem (h word[i] (List.getElem_mem _))
    exact (orN_iff _ _).2 ⟨j, hj, by rw [fnd_eq hj hi]; exact same_text.2 e⟩
theorem calls_bool {f : FuncId} {args : Array Value} {W0 W : World} {r r' : Bool} (h : Calls Try.prog f args W fun e w' => e = .returned (.bool r) ∧ Below W.heap.size W w') (hb : Below W0.heap.size W0 W) (e : r = r') :
    Calls Try.prog f args W fun e w' => e = .returned (.bool r') ∧ Below W0.heap.size W0 w' := by
  subst e
  exact calls_base h hb
end Go.Proofs.Ytnohnkhhkeikoaa
