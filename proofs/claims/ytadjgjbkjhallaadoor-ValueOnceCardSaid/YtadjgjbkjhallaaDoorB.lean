/- Plain words on what a value is shown as, and what is parsed. -/
import Derived.Test.YtadjgjbkjhallaaDoorA
import Derived.Lib.ItoaMem
import Derived.Lib.AtoiTie
namespace Go.Proofs.YtadjgjbkjhallaaDoor
set_option linter.unusedVariables false

/-- a byte of a text's value -/
def plainC (c : UInt8) : Bool := decide (32 ≤ c.toNat) && decide (c.toNat ≤ 126) && decide (c.toNat ≠ 34) && decide (c.toNat ≠ 92)
def isT (s : ByteArray) : Bool := decide (s.size ≤ 40) && s.data.toList.all plainC
def rightV (v : Vt) : Bool := (decide (v.1 = 1) && (decide (-1099511627776 ≤ v.2.1) && decide (v.2.1 ≤ 1099511627776) && decide (v.2.2 = ⟨#[]⟩))) || (decide (v.1 = 2) && (decide (v.2.1 = 0) && isT v.2.2))
def itoaB (n : Int) : ByteArray := ⟨(Lib.itoa n).toArray⟩
/-- what a right value is shown as -/
def showB (v : Vt) : ByteArray := if v.1 = 1 then itoaB v.2.1 else ⟨(34 :: (v.2.2.data.toList ++ [34])).toArray⟩
/-- the number that Atoi answers, whatever its error -/
def numG (s : ByteArray) : Int := match Lib.atoiAll s.data.toList with
  | .ok v => v
  | .range => Lib.atoiSat s.data.toList
  | _ => 0
def midB (s : ByteArray) : ByteArray := ⟨((s.data.toList.drop 1).take (s.size - 2)).toArray⟩
def guessV (s : ByteArray) : Vt := if 2 ≤ s.size ∧ s.data[0]? = some 34 then (2, 0, midB s) else (1, numG s, ⟨#[]⟩)
/-- what is parsed: the value and the error -/
def parseV (s : ByteArray) : Vt × Int := if rightV (guessV s) = true ∧ showB (guessV s) = s then (guessV s, 0) else ((0, 0, ⟨#[]⟩), 7)
def showV (v : Vt) : ByteArray × Int := if rightV v = true then (showB v, 0) else (⟨#[]⟩, 2)

theorem size_mk (l : List UInt8) : (⟨l.toArray⟩ : ByteArray).size = l.length := by show l.toArray.size = _; simp
theorem right_cases {v : Vt} (h : rightV v = true) : (∃ n : Int, v = (1, n, ⟨#[]⟩) ∧ -1099511627776 ≤ n ∧ n ≤ 1099511627776) ∨ (∃ t, v = (2, 0, t) ∧ isT t = true) := by
  obtain ⟨k, n, t⟩ := v
  simp only [rightV, Bool.or_eq_true, Bool.and_eq_true, decide_eq_true_eq] at h
  rcases h with ⟨rfl, ⟨h1, h2⟩, rfl⟩ | ⟨rfl, rfl, h3⟩
  · exact .inl ⟨n, rfl, h1, h2⟩
  · exact .inr ⟨t, rfl, h3⟩
theorem right_num {n : Int} : rightV (1, n, ⟨#[]⟩) = true ↔ -1099511627776 ≤ n ∧ n ≤ 1099511627776 := by simp [rightV]
theorem right_text {t : ByteArray} : rightV (2, 0, t) = true ↔ isT t = true := by simp [rightV]

/-! ### numerals -/
open Lib
theorem decFrom_append : ∀ (l r : List UInt8) (acc : Nat), decFrom acc (l ++ r) = (decFrom acc l).bind fun n => decFrom n r
  | [], r, acc => by simp [decFrom]
  | a :: l, r, acc => by
    simp only [List.cons_append, decFrom]
    cases h : digitVal a with
    | none => rfl
    | some d => exact decFrom_append l r _
theorem digitVal_ofNat {d : Nat} (h : d < 10) : digitVal (UInt8.ofNat (48 + d)) = some d := by
  have e : (UInt8.ofNat (48 + d)).toNat = 48 + d := by rw [UInt8.toNat_ofNat']; omega
  unfold digitVal
  rw [e, if_pos (by omega)]
  congr 1
  omega
theorem decFrom_digits (u : Nat) : decFrom 0 (decDigits u) = some u := by
  induction u using Nat.strongRecOn with
  | _ u ih =>
    rw [decDigits]
    by_cases h : u < 10
    · rw [dif_pos h]
      simp only [decFrom, digitVal_ofNat h, Nat.zero_mul, Nat.zero_add]
    · rw [dif_neg h, decFrom_append, ih (u / 10) (by omega)]
      simp only [Option.bind_some, decFrom, digitVal_ofNat (show u % 10 < 10 by omega)]
      congr 1
      omega
theorem digits_ne (u : Nat) : decDigits u ≠ [] := fun e => by
  have h := decDigits_length u
  rw [e] at h
  have := nDigits_pos u
  simp at h; omega
theorem digit_back {c : UInt8} {d : Nat} (h : digitVal c = some d) : d < 10 ∧ UInt8.ofNat (48 + d) = c := by
  obtain ⟨h1, h2, h3⟩ := digitVal_eq h
  refine ⟨by omega, ?_⟩
  apply UInt8.toNat_inj.1
  rw [UInt8.toNat_ofNat']
  omega
/-- a numeral that does not begin with 0 is its number's -/
theorem digits_back : ∀ (n : Nat) (l : List UInt8) (u : Nat), l.length = n → l ≠ [] → (l.head? = some 48 → l.length = 1) → decFrom 0 l = some u → decDigits u = l ∧ (l.head? ≠ some 48 → 1 ≤ u)
  | 0, l, u, hn, hne, _, _ => absurd (List.eq_nil_of_length_eq_zero hn) hne
  | n + 1, l, u, hn, hne, hz, hd => by
    obtain ⟨r, c, rfl⟩ : ∃ r c, l = r ++ [c] := ⟨l.dropLast, l.getLast hne, (List.dropLast_concat_getLast hne).symm⟩
    rw [decFrom_append] at hd
    cases hr : decFrom 0 r with
    | none => rw [hr] at hd; cases hd
    | some m =>
      rw [hr] at hd
      simp only [Option.bind_some, decFrom] at hd
      cases hc : digitVal c with
      | none => rw [hc] at hd; cases hd
      | some d =>
        rw [hc] at hd
        simp only [Option.some.injEq] at hd
        obtain ⟨hd10, hback⟩ := digit_back hc
        by_cases h0 : r = []
        · subst h0
          simp only [decFrom, Option.some.injEq] at hr
          subst hr
          have hu : u = d := by omega
          subst hu
          refine ⟨?_, fun hh => ?_⟩
          · rw [decDigits, dif_pos hd10, hback]
            rfl
          · have : u ≠ 0 := fun e => hh (by subst e; rw [← hback]; rfl)
            omega
        · have hhead : (r ++ [c]).head? = r.head? := by
            cases r with
            | nil => exact absurd rfl h0
            | cons a r => rfl
          have hlen : 1 < (r ++ [c]).length := by
            have : 0 < r.length := by cases r with
              | nil => exact absurd rfl h0
              | cons a r => simp
            simp; omega
          have hnz : r.head? ≠ some 48 := fun e => by have := hz (by rw [hhead]; exact e); omega
          have ih := digits_back n r m (by simp at hn; omega) h0 (fun e => absurd e hnz) hr
          have hm := ih.2 hnz
          refine ⟨?_, fun _ => by omega⟩
          rw [decDigits, dif_neg (by omega)]
          have e1 : u / 10 = m := by omega
          have e2 : u % 10 = d := by omega
          rw [e1, e2, ih.1, hback]

theorem head_digits {u : Nat} (h : (decDigits u).head? = some 48) : u = 0 := by
  induction u using Nat.strongRecOn with
  | _ u ih =>
    by_cases hu : u < 10
    · rw [decDigits, dif_pos hu] at h
      have e : UInt8.ofNat (48 + u) = 48 := by simpa using h
      have := congrArg UInt8.toNat e
      rw [UInt8.toNat_ofNat'] at this
      have e2 : (48 : UInt8).toNat = 48 := rfl
      omega
    · rw [decDigits, dif_neg hu] at h
      have hh : (decDigits (u / 10)).head? = some 48 := by
        cases hx : decDigits (u / 10) with
        | nil => exact absurd hx (digits_ne _)
        | cons a r => rw [hx] at h; exact h
      have := ih (u / 10) (by omega) hh
      omega
theorem pow_digits {u k : Nat} (h : u < 10 ^ (k + 1)) : (decDigits u).length ≤ k + 1 := by
  rw [decDigits_length]
  induction k generalizing u with
  | zero => rw [nDigits_small (by simpa using h)]; omega
  | succ k ih =>
    by_cases hu : u < 10
    · rw [nDigits_small hu]; omega
    · rw [nDigits_big hu]
      have := ih (u := u / 10) (by rw [Nat.pow_succ] at h; omega)
      omega
theorem digit_first {u : Nat} {c : UInt8} {r : List UInt8} (h : decDigits u = c :: r) : 48 ≤ c.toNat ∧ c.toNat ≤ 57 := by
  obtain ⟨d, hd⟩ := digit_of_decFrom _ _ _ (decFrom_digits u) 0 c (by rw [h]; rfl)
  have := digitVal_eq hd
  omega

theorem decNat_digits (u : Nat) : decNat (decDigits u) = some u := by
  unfold decNat
  rw [if_neg (by simp [digits_ne]), decFrom_digits]
theorem atoi_itoa (n : Int) : atoi (itoa n) = some n := by
  unfold itoa
  by_cases h : n < 0
  · rw [if_pos h]
    simp only [atoi]
    rw [if_pos (by decide), decNat_digits]
    simp only [Option.map_some, Option.some.injEq]
    omega
  · rw [if_neg h]
    cases hx : decDigits n.toNat with
    | nil => exact absurd hx (digits_ne _)
    | cons c r =>
      obtain ⟨h1, h2⟩ := digit_first hx
      have e1 : (c == 45) = false := by rw [beq_eq_false_iff_ne]; rintro rfl; have e : (45 : UInt8).toNat = 45 := rfl; omega
      have e2 : (c == 43) = false := by rw [beq_eq_false_iff_ne]; rintro rfl; have e : (43 : UInt8).toNat = 43 := rfl; omega
      simp only [atoi, e1, e2]
      have := decNat_digits n.toNat
      rw [hx] at this
      simp only [Bool.false_eq_true, if_false, this, Option.map_some, Option.some.injEq]
      omega
theorem itoa_len {n : Int} (h1 : -1099511627776 ≤ n) (h2 : n ≤ 1099511627776) : (itoa n).length ≤ 14 := by
  have e : (10 : Nat) ^ (12 + 1) = 10000000000000 := by decide
  unfold itoa
  by_cases h : n < 0
  · rw [if_pos h]
    have := pow_digits (u := n.natAbs) (k := 12) (by rw [e]; omega)
    simp; omega
  · rw [if_neg h]
    have := pow_digits (u := n.toNat) (k := 12) (by rw [e]; omega)
    omega
theorem numG_itoa {n : Int} (h1 : -1099511627776 ≤ n) (h2 : n ≤ 1099511627776) : numG (itoaB n) = n := by
  unfold numG itoaB
  simp only
  rw [atoiAll_short _ (by have := itoa_len h1 h2; simpa using Nat.le_trans this (by decide)), atoi_itoa]
  rfl
theorem itoa_no_quote {n : Int} : ¬ (itoaB n).data[0]? = some 34 := by
  have e45 : (45 : UInt8) ≠ 34 := by decide
  unfold itoaB itoa
  by_cases h : n < 0
  · rw [if_pos h]; simp
  · rw [if_neg h]
    cases hx : decDigits n.toNat with
    | nil => simp
    | cons c r =>
      obtain ⟨h1, h2⟩ := digit_first hx
      simp
      rintro rfl
      have e : (34 : UInt8).toNat = 34 := rfl
      omega

/-! ### there and back -/
theorem guess_show {v : Vt} (h : rightV v = true) : guessV (showB v) = v := by
  rcases right_cases h with ⟨n, rfl, h1, h2⟩ | ⟨t, rfl, ht⟩
  · unfold showB guessV
    rw [if_pos rfl, if_neg (fun hh => itoa_no_quote hh.2), numG_itoa h1 h2]
  · unfold showB guessV
    rw [if_neg (show ¬ (2 : Int) = 1 by decide), if_pos ⟨by rw [size_mk]; simp, by simp⟩]
    refine congrArg (fun x => ((2 : Int), (0 : Int), x)) ?_
    unfold midB
    rw [size_mk]
    apply ByteArray.ext
    apply Array.ext'
    simp
theorem parse_ok {s : ByteArray} : (parseV s).2 = 0 ↔ ∃ v, rightV v = true ∧ showB v = s := by
  unfold parseV
  constructor
  · intro h
    split at h
    · rename_i hh; exact ⟨_, hh.1, hh.2⟩
    · cases h
  · rintro ⟨v, h1, rfl⟩
    rw [guess_show h1, if_pos ⟨h1, rfl⟩]
theorem parse_show {v : Vt} (h : rightV v = true) : parseV (showB v) = (v, 0) := by
  unfold parseV
  rw [guess_show h, if_pos ⟨h, rfl⟩]
theorem parse_spec (s : ByteArray) : (∃ v, rightV v = true ∧ showB v = s ∧ parseV s = (v, 0)) ∨ ((∀ v, rightV v = true → showB v ≠ s) ∧ parseV s = ((0, 0, ⟨#[]⟩), 7)) := by
  by_cases h : rightV (guessV s) = true ∧ showB (guessV s) = s
  · exact .inl ⟨_, h.1, h.2, by unfold parseV; rw [if_pos h]⟩
  · refine .inr ⟨fun v hv e => h ?_, by unfold parseV; rw [if_neg h]⟩
    rw [← e, guess_show hv]
    exact ⟨hv, rfl⟩
theorem show_inj {v v' : Vt} (h : rightV v = true) (h' : rightV v' = true) (e : showB v = showB v') : v = v' := by
  rw [← guess_show h, e, guess_show h']

/-! ### the document's parsing -/
def refNum (s : ByteArray) : Option Int :=
  let l := s.data.toList
  let neg := s.data[0]? == some 45
  let d := if neg then l.drop 1 else l
  if d = [] ∨ 13 < d.length ∨ (d.head? = some 48 ∧ l ≠ [48]) then none
  else (decFrom 0 d).map fun (u : Nat) => if neg then -(u : Int) else (u : Int)
def refParse (s : ByteArray) : Vt × Int :=
  if 2 ≤ s.size ∧ s.data[0]? = some 34 ∧ s.data[s.size - 1]? = some 34 then (if rightV (2, 0, midB s) = true then ((2, 0, midB s), 0) else ((0, 0, ⟨#[]⟩), 7))
  else match refNum s with
    | some n => if rightV (1, n, ⟨#[]⟩) = true then ((1, n, ⟨#[]⟩), 0) else ((0, 0, ⟨#[]⟩), 7)
    | none => ((0, 0, ⟨#[]⟩), 7)

theorem mid_show {s : ByteArray} (h : 2 ≤ s.size ∧ s.data[0]? = some 34 ∧ s.data[s.size - 1]? = some 34) : showB (2, 0, midB s) = s := by
  obtain ⟨h0, h1, h2⟩ := h
  unfold showB
  rw [if_neg (show ¬ (2 : Int) = 1 by decide)]
  apply ByteArray.ext
  apply Array.ext'
  have hl : s.data.toList.length = s.size := Array.length_toList
  rw [← Array.getElem?_toList] at h1 h2
  simp only [midB]
  rw [← hl] at h0 h2 ⊢
  generalize s.data.toList = l at h0 h1 h2 ⊢
  match l, h0, h1, h2 with
  | a :: r, h0, h1, h2 =>
    simp only [List.getElem?_cons_zero, Option.some.injEq] at h1
    subst h1
    have hr : r ≠ [] := by rintro rfl; simp at h0
    have hlast : r.getLast hr = 34 := by
      rw [List.getLast_eq_getElem]
      have : (34 :: r).length - 1 = (r.length - 1) + 1 := by have := List.length_pos_iff.2 hr; simp; omega
      rw [this, List.getElem?_cons_succ] at h2
      exact (List.getElem?_eq_some_iff.1 h2).2
    simp only [List.drop_succ_cons, List.drop_zero, List.length_cons]
    rw [show r.length + 1 - 2 = r.length - 1 by omega, ← List.dropLast_eq_take]
    simp only [List.cons.injEq, true_and]
    conv => rhs; rw [← List.dropLast_concat_getLast hr, hlast]

theorem refNum_neg {s : ByteArray} (h : s.data[0]? = some 45) : refNum s = if s.data.toList.drop 1 = [] ∨ 13 < (s.data.toList.drop 1).length ∨ ((s.data.toList.drop 1).head? = some 48 ∧ s.data.toList ≠ [48]) then none else (decFrom 0 (s.data.toList.drop 1)).map fun (u : Nat) => -(u : Int) := by
  have hb : (s.data[0]? == some 45) = true := by simpa using h
  simp only [refNum, hb, if_true]
theorem refNum_plain {s : ByteArray} (h : ¬ s.data[0]? = some 45) : refNum s = if s.data.toList = [] ∨ 13 < s.data.toList.length ∨ (s.data.toList.head? = some 48 ∧ s.data.toList ≠ [48]) then none else (decFrom 0 s.data.toList).map fun (u : Nat) => (u : Int) := by
  have hb : (s.data[0]? == some 45) = false := by simpa using h
  simp only [refNum, hb, Bool.false_eq_true, if_false]
theorem refNum_some {s : ByteArray} {n : Int} (h : refNum s = some n) : itoaB n = s := by
  by_cases hneg : s.data[0]? = some 45
  · rw [refNum_neg hneg] at h
    by_cases hc : s.data.toList.drop 1 = [] ∨ 13 < (s.data.toList.drop 1).length ∨ ((s.data.toList.drop 1).head? = some 48 ∧ s.data.toList ≠ [48])
    · rw [if_pos hc] at h; cases h
    · rw [if_neg hc] at h
      have hc1 : ¬ s.data.toList.drop 1 = [] := fun e => hc (.inl e)
      have hc3 : ¬ ((s.data.toList.drop 1).head? = some 48 ∧ s.data.toList ≠ [48]) := fun e => hc (.inr (.inr e))
      cases hd : decFrom 0 (s.data.toList.drop 1) with
      | none => rw [hd] at h; cases h
      | some u =>
        rw [hd] at h
        simp only [Option.map_some, Option.some.injEq] at h
        subst h
        rw [← Array.getElem?_toList] at hneg
        have hne48 : s.data.toList ≠ [48] := fun e => by rw [e] at hneg; simp at hneg
        have hhd : (s.data.toList.drop 1).head? ≠ some 48 := fun e => hc3 ⟨e, hne48⟩
        obtain ⟨h1, h2⟩ := digits_back _ _ u rfl hc1 (fun e => absurd e hhd) hd
        have hu := h2 hhd
        unfold itoaB
        apply ByteArray.ext
        apply Array.ext'
        rw [itoa_neg u hu, h1]
        cases hl : s.data.toList with
        | nil => rw [hl] at hneg; simp at hneg
        | cons a r => rw [hl] at hneg; simp at hneg; subst hneg; rfl
  · rw [refNum_plain hneg] at h
    by_cases hc : s.data.toList = [] ∨ 13 < s.data.toList.length ∨ (s.data.toList.head? = some 48 ∧ s.data.toList ≠ [48])
    · rw [if_pos hc] at h; cases h
    · rw [if_neg hc] at h
      have hc1 : ¬ s.data.toList = [] := fun e => hc (.inl e)
      have hc3 : ¬ (s.data.toList.head? = some 48 ∧ s.data.toList ≠ [48]) := fun e => hc (.inr (.inr e))
      cases hd : decFrom 0 s.data.toList with
      | none => rw [hd] at h; cases h
      | some u =>
        rw [hd] at h
        simp only [Option.map_some, Option.some.injEq] at h
        subst h
        have hhd : s.data.toList.head? = some 48 → s.data.toList.length = 1 := fun e => by
          have : s.data.toList = [48] := Classical.byContradiction fun hh => hc3 ⟨e, hh⟩
          rw [this]; rfl
        obtain ⟨h1, h2⟩ := digits_back _ _ u rfl hc1 hhd hd
        unfold itoaB
        apply ByteArray.ext
        apply Array.ext'
        rw [itoa_nonneg, h1]
theorem refNum_itoa {n : Int} (h1 : -1099511627776 ≤ n) (h2 : n ≤ 1099511627776) : refNum (itoaB n) = some n := by
  have e : (10 : Nat) ^ (12 + 1) = 10000000000000 := by decide
  have key : ∀ u : Nat, u ≤ 1099511627776 → (decDigits u).length ≤ 13 := fun u hu => pow_digits (u := u) (k := 12) (by rw [e]; omega)
  by_cases h : n < 0
  · obtain ⟨u, hu⟩ : ∃ u : Nat, n = -(u : Int) := ⟨n.natAbs, by omega⟩
    subst hu
    unfold itoaB
    rw [itoa_neg u (by omega), refNum_neg (by simp)]
    simp only [List.drop_succ_cons, List.drop_zero]
    rw [if_neg, decFrom_digits]
    · rfl
    · rintro (hx | hx | ⟨hx, _⟩)
      · exact digits_ne _ hx
      · have := key u (by omega); omega
      · have := head_digits hx; omega
  · obtain ⟨u, hu⟩ : ∃ u : Nat, n = (u : Int) := ⟨n.toNat, by omega⟩
    subst hu
    unfold itoaB
    rw [itoa_nonneg, refNum_plain]
    · simp only
      rw [if_neg, decFrom_digits]
      · rfl
      · rintro (hx | hx | ⟨hx, hy⟩)
        · exact digits_ne _ hx
        · have := key u (by omega); omega
        · have := head_digits hx
          subst this
          exact hy (by rw [decDigits, dif_pos (by decide)]; rfl)
    · cases hx : decDigits u with
      | nil => exact absurd hx (digits_ne _)
      | cons c r =>
        obtain ⟨h1, h2⟩ := digit_first hx
        simp
        rintro rfl
        have e : (45 : UInt8).toNat = 45 := rfl
        omega

theorem refParse_eq (s : ByteArray) : refParse s = parseV s := by
  rcases parse_spec s with ⟨v, hv, rfl, hp⟩ | ⟨hno, hp⟩
  · rw [hp]
    rcases right_cases hv with ⟨n, rfl, h1, h2⟩ | ⟨t, rfl, ht⟩
    · have es : showB (1, n, ⟨#[]⟩) = itoaB n := by unfold showB; rw [if_pos rfl]
      unfold refParse
      rw [es, if_neg (fun hh => itoa_no_quote hh.2.1), refNum_itoa h1 h2]
      simp only
      rw [if_pos hv]
    · have hc : 2 ≤ (showB (2, 0, t)).size ∧ (showB (2, 0, t)).data[0]? = some 34 ∧ (showB (2, 0, t)).data[(showB (2, 0, t)).size - 1]? = some 34 := by
        unfold showB
        rw [if_neg (show ¬ (2 : Int) = 1 by decide)]
        rw [size_mk]
        refine ⟨by simp, by simp, ?_⟩
        simp
      have hm : midB (showB (2, 0, t)) = t := by
        have := guess_show hv
        unfold guessV at this
        rw [if_pos ⟨hc.1, hc.2.1⟩] at this
        injection this with _ this
        injection this
      unfold refParse
      rw [if_pos hc, hm, if_pos hv]
  · rw [hp]
    unfold refParse
    by_cases hc : 2 ≤ s.size ∧ s.data[0]? = some 34 ∧ s.data[s.size - 1]? = some 34
    · rw [if_pos hc, if_neg]
      exact fun hr => hno _ hr (mid_show hc)
    · rw [if_neg hc]
      cases hn : refNum s with
      | none => rfl
      | some n =>
        simp only
        rw [if_neg]
        refine fun hr => hno _ hr ?_
        unfold showB
        rw [if_pos rfl]
        exact refNum_some hn
end Go.Proofs.YtadjgjbkjhallaaDoor
