/- Texts ZB, ZD, ZQ, WA, one behind the other. -/
import Derived.Test.YtnccgaanfjaimaaDoorG1
import Derived.Test.YtnccgaanfjaimaaDoorG3
import Derived.Test.YtnccgaanfjaimaaDoorG6
import Derived.Test.YtnccgaanfjaimaaDoorG7
import Derived.Lib.Strings
import Derived.Lib.Walk
import Derived.Lib.BufferWrite
import Derived.Lib.UnsafeStr
import Derived.Laws.MakeOwn
set_option linter.unusedSimpArgs false
set_option linter.unusedVariables false
namespace Go.Proofs.YtnccgaanfjaimaaDoor
open Go.ChangeShapes Go.WideShapes Go.ChangeAt Go.RowKit
set_option linter.unusedVariables false
set_option linter.unusedSimpArgs false
/-- labels, the begin's ahead; what follows; first ones and last ones -/
structure NS where
  labs : List ByteArray
  fol : Nat → Nat
mutual
def addX : X → NS → NS × Nat × Nat
  | .mk k l ks, s => if k = 1 then (⟨s.labs ++ [l], s.fol⟩, 2 ^ s.labs.length, 2 ^ s.labs.length) else if k = 2 then addR ks s 0 0 true else
    if k = 4 ∨ k = 5 then (⟨(addA ks s 0 0).1.labs, lnk (addA ks s 0 0).1.fol (addA ks s 0 0).2.2 (addA ks s 0 0).2.1⟩, (addA ks s 0 0).2) else addA ks s 0 0
def addR : List X → NS → Nat → Nat → Bool → NS × Nat × Nat
  | [], s, F, L, _ => (s, F, L)
  | x :: xs, s, F, L, a => addR xs ⟨(addX x s).1.labs, lnk (addX x s).1.fol L (addX x s).2.1⟩ (if a then F ||| (addX x s).2.1 else F) ((if x.emp then L else 0) ||| (addX x s).2.2) (a && x.emp)
def addA : List X → NS → Nat → Nat → NS × Nat × Nat
  | [], s, F, L => (s, F, L)
  | x :: xs, s, F, L => addA xs (addX x s).1 (F ||| (addX x s).2.1) (L ||| (addX x s).2.2)
end
theorem addX_eq (x : X) (s : NS) : addX x s = if x.kind = 1 then (⟨s.labs ++ [x.lab], s.fol⟩, 2 ^ s.labs.length, 2 ^ s.labs.length) else if x.kind = 2 then addR x.kids s 0 0 true else
    if x.kind = 4 ∨ x.kind = 5 then (⟨(addA x.kids s 0 0).1.labs, lnk (addA x.kids s 0 0).1.fol (addA x.kids s 0 0).2.2 (addA x.kids s 0 0).2.1⟩, (addA x.kids s 0 0).2) else addA x.kids s 0 0 := by cases x; rw [addX]; rfl
theorem addR_nil (s : NS) (F L : Nat) (a : Bool) : addR [] s F L a = (s, F, L) := by rw [addR]
theorem addR_cons (x : X) (xs : List X) (s : NS) (F L : Nat) (a : Bool) : addR (x :: xs) s F L a = addR xs ⟨(addX x s).1.labs, lnk (addX x s).1.fol L (addX x s).2.1⟩ (if a then F ||| (addX x s).2.1 else F) ((if x.emp then L else 0) ||| (addX x s).2.2) (a && x.emp) := by rw [addR]
theorem addA_nil (s : NS) (F L : Nat) : addA [] s F L = (s, F, L) := by rw [addA]
theorem addA_cons (x : X) (xs : List X) (s : NS) (F L : Nat) : addA (x :: xs) s F L = addA xs (addX x s).1 (F ||| (addX x s).2.1) (L ||| (addX x s).2.2) := by rw [addA]

/-- what is added is what the table tells -/
def AddsX (x : X) : Prop := ∀ s : NS, (addX x s).1.labs = s.labs ++ x.ps ∧ (∀ p, (addX x s).2.1.testBit p = x.fst s.labs.length p) ∧ (∀ p, (addX x s).2.2.testBit p = x.lst s.labs.length p) ∧
  (∀ p q, ((addX x s).1.fol p).testBit q = ((s.fol p).testBit q || x.fol s.labs.length p q))
theorem addsR : ∀ (ks : List X), (∀ y ∈ ks, AddsX y) → ∀ (s : NS) (F L : Nat) (a : Bool), (addR ks s F L a).1.labs = s.labs ++ psL ks ∧ (∀ p, (addR ks s F L a).2.1.testBit p = (F.testBit p || (a && fstS ks s.labs.length p))) ∧
    (∀ p, (addR ks s F L a).2.2.testBit p = ((allE ks && L.testBit p) || lstS ks s.labs.length p)) ∧
    (∀ p q, ((addR ks s F L a).1.fol p).testBit q = ((s.fol p).testBit q || folS ks s.labs.length p q || (L.testBit p && fstS ks s.labs.length q)))
  | [], h, s, F, L, a => by
    rw [addR_nil]
    refine ⟨by rw [psL_nil, List.append_nil], fun p => by rw [fstS]; simp, fun p => by rw [lstS, allE]; simp, fun p q => by rw [folS, fstS]; simp⟩
  | x :: xs, h, s, F, L, a => by
    obtain ⟨h1, h2, h3, h4⟩ := h x (by simp) s
    obtain ⟨k1, k2, k3, k4⟩ := addsR xs (fun y hy => h y (by simp [hy])) ⟨(addX x s).1.labs, lnk (addX x s).1.fol L (addX x s).2.1⟩ (if a then F ||| (addX x s).2.1 else F) ((if x.emp then L else 0) ||| (addX x s).2.2) (a && x.emp)
    have hl : (addX x s).1.labs.length = s.labs.length + x.pn := by rw [h1, List.length_append]; rfl
    simp only [hl] at k1 k2 k3 k4
    rw [addR_cons]
    refine ⟨by rw [k1, h1, psL_cons, List.append_assoc], fun p => ?_, fun p => ?_, fun p q => ?_⟩
    · rw [k2, fstS]
      cases a <;> simp [Nat.testBit_or, h2, Bool.or_assoc]
    · rw [k3, lstS, Nat.testBit_or, h3, show allE (x :: xs) = (x.emp && allE xs) by rw [allE]]
      cases x.emp <;> cases allE xs <;> simp [Bool.or_assoc]
    · have hL : (if x.emp = true then L else 0).testBit p = (x.emp && L.testBit p) := by cases x.emp <;> simp
      rw [k4, lnk_bit, h4, h2, Nat.testBit_or, h3, folS, fstS, hL]
      cases x.emp <;> cases (s.fol p).testBit q <;> cases x.fol s.labs.length p q <;> cases L.testBit p <;> cases folS xs (s.labs.length + x.pn) p q <;> cases x.lst s.labs.length p <;> cases fstS xs (s.labs.length + x.pn) q <;> cases x.fst s.labs.length q <;> rfl
theorem addsA : ∀ (ks : List X), (∀ y ∈ ks, AddsX y) → ∀ (s : NS) (F L : Nat), (addA ks s F L).1.labs = s.labs ++ psL ks ∧ (∀ p, (addA ks s F L).2.1.testBit p = (F.testBit p || fstA ks s.labs.length p)) ∧
    (∀ p, (addA ks s F L).2.2.testBit p = (L.testBit p || lstA ks s.labs.length p)) ∧
    (∀ p q, ((addA ks s F L).1.fol p).testBit q = ((s.fol p).testBit q || folA ks s.labs.length p q))
  | [], h, s, F, L => by
    rw [addA_nil]
    refine ⟨by rw [psL_nil, List.append_nil], fun p => by rw [fstA]; simp, fun p => by rw [lstA]; simp, fun p q => by rw [folA]; simp⟩
  | x :: xs, h, s, F, L => by
    obtain ⟨h1, h2, h3, h4⟩ := h x (by simp) s
    obtain ⟨k1, k2, k3, k4⟩ := addsA xs (fun y hy => h y (by simp [hy])) (addX x s).1 (F ||| (addX x s).2.1) (L ||| (addX x s).2.2)
    have hl : (addX x s).1.labs.length = s.labs.length + x.pn := by rw [h1, List.length_append]; rfl
    simp only [hl] at k1 k2 k3 k4
    rw [addA_cons]
    refine ⟨by rw [k1, h1, psL_cons, List.append_assoc], fun p => by rw [k2, fstA, Nat.testBit_or, h2, Bool.or_assoc], fun p => by rw [k3, lstA, Nat.testBit_or, h3, Bool.or_assoc], fun p q => by rw [k4, folA, h4, Bool.or_assoc]⟩
theorem adds_any : ∀ x : X, AddsX x := by
  intro x
  induction x using X.ind' with
  | h x ih =>
    intro s
    rw [addX_eq, X.ps_eq]
    have e1 : ∀ p, x.fst s.labs.length p = if x.kind = 1 then decide (p = s.labs.length) else if x.kind = 2 then fstS x.kids s.labs.length p else fstA x.kids s.labs.length p := fun p => X.fst_eq x _ p
    have e2 : ∀ p, x.lst s.labs.length p = if x.kind = 1 then decide (p = s.labs.length) else if x.kind = 2 then lstS x.kids s.labs.length p else lstA x.kids s.labs.length p := fun p => X.lst_eq x _ p
    have e3 := fun p q => X.fol_eq x s.labs.length p q
    by_cases k1 : x.kind = 1
    · simp only [k1, if_true] at e1 e2 e3 ⊢
      refine ⟨trivial, fun p => ?_, fun p => ?_, fun p q => by rw [e3, Bool.or_false]⟩
      · rw [e1, Nat.testBit_two_pow]; exact decide_eq_decide.2 ⟨Eq.symm, Eq.symm⟩
      · rw [e2, Nat.testBit_two_pow]; exact decide_eq_decide.2 ⟨Eq.symm, Eq.symm⟩
    · by_cases k2 : x.kind = 2
      · obtain ⟨a1, a2, a3, a4⟩ := addsR x.kids ih s 0 0 true
        simp only [k1, k2, if_true, if_false] at e1 e2 e3 ⊢
        simp only [show ¬((2 : Int) = 1) by decide, if_false] at e1 e2 e3 ⊢
        exact ⟨a1, fun p => by rw [a2, e1]; simp, fun p => by rw [a3, e2]; simp, fun p q => by rw [a4, e3]; simp⟩
      · obtain ⟨a1, a2, a3, a4⟩ := addsA x.kids ih s 0 0
        simp only [k1, k2, if_false] at e1 e2 e3 ⊢
        have a2' : ∀ p, (addA x.kids s 0 0).2.1.testBit p = fstA x.kids s.labs.length p := fun p => by rw [a2]; simp
        have a3' : ∀ p, (addA x.kids s 0 0).2.2.testBit p = lstA x.kids s.labs.length p := fun p => by rw [a3]; simp
        by_cases k4 : x.kind = 4 ∨ x.kind = 5
        · simp only [k4, if_true, decide_true, Bool.true_and] at e3 ⊢
          exact ⟨a1, fun p => by rw [a2', e1], fun p => by rw [a3', e2], fun p q => by rw [lnk_bit, a4, e3, a2', a3', Bool.or_assoc]⟩
        · simp only [k4, if_false, decide_false, Bool.false_and, Bool.or_false] at e3 ⊢
          exact ⟨a1, fun p => by rw [a2', e1], fun p => by rw [a3', e2], fun p q => by rw [a4, e3]⟩

/-- the sets stay small -/
def Bd (s : NS) : Prop := ∀ p, s.fol p < 2 ^ s.labs.length
theorem addX_bd (x : X) {s : NS} (h : Bd s) : Bd (addX x s).1 ∧ (addX x s).2.1 < 2 ^ (addX x s).1.labs.length ∧ (addX x s).2.2 < 2 ^ (addX x s).1.labs.length ∧ (addX x s).1.labs.length = s.labs.length + x.pn := by
  obtain ⟨h1, h2, h3, h4⟩ := adds_any x s
  have hl : (addX x s).1.labs.length = s.labs.length + x.pn := by rw [h1, List.length_append]; rfl
  rw [Bd, hl]
  refine ⟨fun p => lt_of_bits fun i hi => ?_, lt_of_bits fun i hi => ?_, lt_of_bits fun i hi => ?_, rfl⟩
  · rw [h4, bit_false (h p) (by omega), Bool.false_or]
    cases hf : x.fol s.labs.length p i with
    | false => rfl
    | true => have := fol_in x _ p i hf; omega
  · rw [h2]
    cases hf : x.fst s.labs.length i with
    | false => rfl
    | true => have := fst_in x _ i hf; omega
  · rw [h3]
    cases hf : x.lst s.labs.length i with
    | false => rfl
    | true => have := lst_in x _ i hf; omega

/-- the whole: what New makes -/
def nf (x : X) : NS × Nat × Nat := addX x ⟨[⟨#[]⟩], fun _ => 0⟩
def nfF (x : X) : Nat → Nat := lnk (nf x).1.fol 1 (nf x).2.1
def nfL (x : X) : Nat := (nf x).2.2
theorem nf_labs (x : X) : (nf x).1.labs = ⟨#[]⟩ :: x.ps := (adds_any x _).1
theorem nfF_zero (x : X) (q : Nat) : (nfF x 0).testBit q = x.fst 1 q := by
  obtain ⟨h1, h2, h3, h4⟩ := adds_any x ⟨[⟨#[]⟩], fun _ => 0⟩
  unfold nfF nf
  rw [lnk_bit, h4, h2]
  simp only [Nat.zero_testBit, Bool.false_or, List.length_singleton]
  cases hf : x.fol 1 0 q with
  | false => simp
  | true => have := fol_in x 1 0 q hf; omega
theorem nfF_pos (x : X) {p : Nat} (hp : 0 < p) (q : Nat) : (nfF x p).testBit q = x.fol 1 p q := by
  obtain ⟨h1, h2, h3, h4⟩ := adds_any x ⟨[⟨#[]⟩], fun _ => 0⟩
  unfold nfF nf
  rw [lnk_bit, h4]
  simp only [Nat.zero_testBit, Bool.false_or, List.length_singleton]
  have : Nat.testBit 1 p = false := by
    rw [show (1 : Nat) = 2 ^ 0 by rfl, Nat.testBit_two_pow]; simp; omega
  rw [this]
  simp
theorem nfL_bit (x : X) (q : Nat) : (nfL x).testBit q = x.lst 1 q := (adds_any x ⟨[⟨#[]⟩], fun _ => 0⟩).2.2.1 q
theorem nf_bd (x : X) : (∀ p, nfF x p < 2 ^ (1 + x.pn)) ∧ nfL x < 2 ^ (1 + x.pn) := by
  obtain ⟨h1, h2, h3, h4⟩ := addX_bd x (s := ⟨[⟨#[]⟩], fun _ => 0⟩) (fun p => by simp)
  rw [Bd] at h1
  rw [h4] at h1 h2 h3
  exact ⟨fun p => lnk_lt h1 h2 p, h3⟩
/-- there are fewer positions than parts -/
theorem pn_sz : ∀ x : X, x.pn ≤ x.sz := by
  intro x
  induction x using X.ind' with
  | h x ih =>
    have hL : ∀ ks : List X, (∀ y ∈ ks, y.pn ≤ y.sz) → pnL ks ≤ szL ks := by
      intro ks
      induction ks with
      | nil => intro _; rw [pnL_nil]; omega
      | cons y ys ihy => intro h; rw [pnL_cons, szL_cons]; have := h y (by simp); have := ihy (fun z hz => h z (by simp [hz])); omega
    rw [X.pn_eq, X.sz_eq]
    have := hL x.kids ih
    split <;> omega
theorem pn_szL (ks : List X) : pnL ks ≤ szL ks := by
  induction ks with
  | nil => rw [pnL_nil]; omega
  | cons y ys ih => rw [pnL_cons, szL_cons]; have := pn_sz y; omega

/-- a step: where a label leads to from some places -/
def behN (fo : Nat → Nat) (fr : Nat) : Nat := orL ((els fr).map fo)
def toN (labs : List ByteArray) (b : Nat) (l : ByteArray) : Nat := orL (((els b).filter fun p => decide (labs[p]?.getD ⟨#[]⟩ = l)).map (2 ^ ·))
def stepN (labs : List ByteArray) (fo : Nat → Nat) (fr : Nat) (l : ByteArray) : Nat := toN labs (behN fo fr) l
theorem behN_bit (fo : Nat → Nat) (fr q : Nat) (h : fr < 2 ^ 32) : (behN fo fr).testBit q = true ↔ ∃ p, fr.testBit p = true ∧ (fo p).testBit q = true := by
  unfold behN
  rw [orL_bit, List.any_map, List.any_eq_true]
  constructor
  · rintro ⟨p, hp, hq⟩; exact ⟨p, (mem_els.1 hp).2, hq⟩
  · rintro ⟨p, hp, hq⟩
    refine ⟨p, mem_els.2 ⟨Nat.lt_of_not_le fun hge => ?_, hp⟩, hq⟩
    rw [bit_false h hge] at hp; cases hp
theorem behN_lt {fo : Nat → Nat} {n : Nat} (h : ∀ p, fo p < 2 ^ n) (fr : Nat) : behN fo fr < 2 ^ n := orL_lt fun s hs => by
  obtain ⟨p, _, rfl⟩ := List.mem_map.1 hs
  exact h p
theorem toN_bit (labs : List ByteArray) (b : Nat) (l : ByteArray) (q : Nat) (h : b < 2 ^ 32) : (toN labs b l).testBit q = true ↔ b.testBit q = true ∧ labs[q]?.getD ⟨#[]⟩ = l := by
  unfold toN
  rw [orL_bit, List.any_map, List.any_eq_true]
  simp only [List.mem_filter, decide_eq_true_eq, Function.comp, Nat.testBit_two_pow]
  constructor
  · rintro ⟨p, ⟨hp, hl⟩, rfl⟩; exact ⟨(mem_els.1 hp).2, hl⟩
  · rintro ⟨hq, hl⟩
    refine ⟨q, ⟨mem_els.2 ⟨Nat.lt_of_not_le fun hge => ?_, hq⟩, hl⟩, rfl⟩
    rw [bit_false h hge] at hq; cases hq
theorem toN_lt (labs : List ByteArray) {b n : Nat} (h : b < 2 ^ n) (l : ByteArray) : toN labs b l < 2 ^ n := orL_lt fun s hs => by
  obtain ⟨p, hp, rfl⟩ := List.mem_map.1 hs
  have := (mem_els.1 (List.mem_filter.1 hp).1).2
  refine Nat.pow_lt_pow_right (by decide) (Nat.lt_of_not_le fun hge => ?_)
  rw [bit_false h hge] at this; cases this
theorem stepN_bit {labs : List ByteArray} {fo : Nat → Nat} {fr : Nat} {l : ByteArray} {n : Nat} (hn : n ≤ 32) (hf : ∀ p, fo p < 2 ^ n) (hr : fr < 2 ^ 32) (q : Nat) : (stepN labs fo fr l).testBit q = true ↔ (∃ p, fr.testBit p = true ∧ (fo p).testBit q = true) ∧ labs[q]?.getD ⟨#[]⟩ = l := by
  unfold stepN
  rw [toN_bit _ _ _ _ (Nat.lt_of_lt_of_le (behN_lt hf fr) (Nat.pow_le_pow_right (by decide) hn)), behN_bit _ _ _ hr]
theorem stepN_lt (labs : List ByteArray) {fo : Nat → Nat} {n : Nat} (hf : ∀ p, fo p < 2 ^ n) (fr : Nat) (l : ByteArray) : stepN labs fo fr l < 2 ^ n := toN_lt _ (behN_lt hf fr) l
/-- many steps -/
def stepsN (labs : List ByteArray) (fo : Nat → Nat) (fr : Nat) (u : Wd) : Nat := u.foldl (stepN labs fo) fr
theorem stepsN_lt (labs : List ByteArray) {fo : Nat → Nat} {n : Nat} (hf : ∀ p, fo p < 2 ^ n) : ∀ (u : Wd) (fr : Nat), fr < 2 ^ n → stepsN labs fo fr u < 2 ^ n
  | [], fr, h => h
  | l :: u, fr, h => stepsN_lt labs hf u _ (stepN_lt labs hf fr l)
theorem stepsN_snoc (labs : List ByteArray) (fo : Nat → Nat) (fr : Nat) (u : Wd) (l : ByteArray) : stepsN labs fo fr (u ++ [l]) = stepN labs fo (stepsN labs fo fr u) l := by simp [stepsN]
theorem stepsN_bit {labs : List ByteArray} {fo : Nat → Nat} {n : Nat} (hn : n ≤ 32) (hf : ∀ p, fo p < 2 ^ n) : ∀ (u : Wd), u ≠ [] → ∀ (fr : Nat), fr < 2 ^ n → ∀ q, (stepsN labs fo fr u).testBit q = true ↔ ∃ p m, fr.testBit p = true ∧ (fo p).testBit m = true ∧ Rn (fun i => labs[i]?.getD ⟨#[]⟩) (fun a b => (fo a).testBit b) m u q
  | [], h, _, _, _ => absurd rfl h
  | [l], _, fr, hr, q => by
    have hr' : fr < 2 ^ 32 := Nat.lt_of_lt_of_le hr (Nat.pow_le_pow_right (by decide) hn)
    show (stepN labs fo fr l).testBit q = true ↔ _
    rw [stepN_bit hn hf hr']
    constructor
    · rintro ⟨⟨p, hp, hq⟩, hl⟩
      exact ⟨p, q, hp, hq, by rw [← hl]; exact .one q⟩
    · rintro ⟨p, m, hp, hm, hr⟩
      generalize hu : [l] = u at hr
      cases hr with
      | one => injection hu with hu _; exact ⟨⟨p, hp, hm⟩, hu.symm⟩
      | cons m m' u' q h h1 => injection hu with _ hu; exact absurd hu.symm h1.ne
  | l :: l' :: u, _, fr, hr, q => by
    have hr' : fr < 2 ^ 32 := Nat.lt_of_lt_of_le hr (Nat.pow_le_pow_right (by decide) hn)
    have ih := stepsN_bit (labs := labs) hn hf (l' :: u) (by simp) (stepN labs fo fr l) (stepN_lt labs hf fr l) q
    show (stepsN labs fo (stepN labs fo fr l) (l' :: u)).testBit q = true ↔ _
    rw [ih]
    constructor
    · rintro ⟨p, m, hp, hm, hr⟩
      obtain ⟨⟨p0, h0, h1⟩, hl⟩ := (stepN_bit hn hf hr' p).1 hp
      exact ⟨p0, p, h0, h1, by rw [← hl]; exact .cons p m _ q hm hr⟩
    · rintro ⟨p, m, hp, hm, hr⟩
      generalize hu : l :: l' :: u = w at hr
      cases hr with
      | one => injection hu with _ hu; cases hu
      | cons m m' u' q h h1 =>
        injection hu with hl hu
        subst hu
        exact ⟨m, m', (stepN_bit hn hf hr' m).2 ⟨⟨p, hp, hm⟩, hl.symm⟩, h, h1⟩

/-- is a word taken? -/
def takesN (x : X) (u : Wd) : Bool := if u = [] then x.emp else decide (stepsN (nf x).1.labs (nfF x) 1 u &&& nfL x ≠ 0)
theorem and_ne_zero (a b : Nat) : a &&& b ≠ 0 ↔ ∃ q, a.testBit q = true ∧ b.testBit q = true := by
  constructor
  · intro h
    refine Classical.byContradiction fun hn => h (Nat.eq_of_testBit_eq fun i => ?_)
    rw [Nat.testBit_and, Nat.zero_testBit]
    cases ha : a.testBit i with
    | false => rfl
    | true =>
      cases hb : b.testBit i with
      | false => rfl
      | true => exact absurd ⟨i, ha, hb⟩ hn
  · rintro ⟨q, ha, hb⟩ h
    have : (a &&& b).testBit q = true := by rw [Nat.testBit_and, ha, hb]; rfl
    rw [h, Nat.zero_testBit] at this
    cases this
theorem one_bit (p : Nat) : Nat.testBit 1 p = true ↔ p = 0 := by
  rw [show (1 : Nat) = 2 ^ 0 by rfl, Nat.testBit_two_pow]; simp; exact eq_comm
theorem lbAt_nf (x : X) : LbAt (fun i => (nf x).1.labs[i]?.getD ⟨#[]⟩) 1 x.ps := fun i hi => by
  show (nf x).1.labs[1 + i]?.getD ⟨#[]⟩ = _
  rw [nf_labs, Nat.add_comm, List.getElem?_cons_succ, List.getElem?_eq_getElem hi]
  rfl
/-- words that end at a last one -/
theorem ends_iff {x : X} (hg : x.good) (hsz : x.sz ≤ 24) {u : Wd} (hu : u ≠ []) : (∃ q, (stepsN (nf x).1.labs (nfF x) 1 u).testBit q = true ∧ (nfL x).testBit q = true) ↔ x.L u := by
  have hp := pn_sz x
  have hb := nf_bd x
  rw [walks_any x hg 1 _ (lbAt_nf x) u]
  have hs := fun q => stepsN_bit (labs := (nf x).1.labs) (n := 1 + x.pn) (by omega) hb.1 u hu 1 (Nat.one_lt_two_pow (by omega)) q
  have hrn : ∀ {m q : Nat}, 0 < m → (Rn (fun i => (nf x).1.labs[i]?.getD ⟨#[]⟩) (fun a b => (nfF x a).testBit b) m u q ↔ Rn (fun i => (nf x).1.labs[i]?.getD ⟨#[]⟩) (x.fol 1) m u q) := by
    intro m q hm
    constructor
    · intro h
      induction h with
      | one p => exact .one p
      | cons p m u r h h1 ih =>
        rw [nfF_pos x hm] at h
        have := fol_in x 1 p m h
        by_cases hu' : u = []
        · subst hu'; exact absurd rfl h1.ne
        · refine .cons p m u r h (ih hu' ?_ ?_)
          · exact fun q => stepsN_bit (labs := (nf x).1.labs) (n := 1 + x.pn) (by omega) hb.1 u hu' 1 (Nat.one_lt_two_pow (by omega)) q
          · omega
    · intro h
      induction h with
      | one p => exact .one p
      | cons p m u r h h1 ih =>
        have hx := fol_in x 1 p m h
        by_cases hu' : u = []
        · subst hu'; exact absurd rfl h1.ne
        · refine .cons p m u r (by rw [nfF_pos x hm]; exact h) (ih hu' ?_ ?_)
          · exact fun q => stepsN_bit (labs := (nf x).1.labs) (n := 1 + x.pn) (by omega) hb.1 u hu' 1 (Nat.one_lt_two_pow (by omega)) q
          · omega
  constructor
  · rintro ⟨q, hq, hl⟩
    obtain ⟨p, m, h1, h2, h3⟩ := (hs q).1 hq
    obtain rfl := (one_bit p).1 h1
    rw [nfF_zero] at h2
    have := fst_in x 1 m h2
    exact .inr ⟨m, q, h2, by rw [← nfL_bit]; exact hl, (hrn (by omega)).1 h3⟩
  · rintro (⟨h, _⟩ | ⟨m, q, hm, hq, h⟩)
    · exact absurd h hu
    · have := fst_in x 1 m hm
      exact ⟨q, (hs q).2 ⟨0, m, (one_bit 0).2 rfl, by rw [nfF_zero]; exact hm, (hrn (by omega)).2 h⟩, by rw [nfL_bit]; exact hq⟩
theorem takesN_iff {x : X} (hg : x.good) (hsz : x.sz ≤ 24) (u : Wd) : takesN x u = true ↔ x.L u := by
  unfold takesN
  by_cases hu : u = []
  · subst hu
    rw [if_pos rfl]
    exact emp_iff x hg
  · rw [if_neg hu, decide_eq_true_eq, and_ne_zero]
    exact ends_iff hg hsz hu

/-- some begin, some end -/
theorem fst_some : ∀ x : X, x.good → ∀ a, (∃ p, x.fst a p = true) ∧ ∃ p, x.lst a p = true := by
  intro x
  induction x using X.ind' with
  | h x ih =>
    intro hg a
    have ih' : ∀ y ∈ x.kids, ∀ a, (∃ p, y.fst a p = true) ∧ ∃ p, y.lst a p = true := fun y hy => ih y hy (hg.kids y hy)
    have hne : x.kind ≠ 1 → x.kids ≠ [] := by
      intro h1 hk
      have hf := hg.fit
      unfold X.fits fitB at hf
      rw [if_neg h1] at hf
      split at hf
      · rw [hk] at hf; simp at hf
      · split at hf
        · rw [hk] at hf; simp at hf
        · cases hf
    by_cases k1 : x.kind = 1
    · exact ⟨⟨a, by rw [X.fst_eq, if_pos k1]; simp⟩, a, by rw [X.lst_eq, if_pos k1]; simp⟩
    · have hn := hne k1
      generalize x.kids = ks at hn ih'
      have hS : ∀ ks : List X, ks ≠ [] → (∀ y ∈ ks, ∀ a, (∃ p, y.fst a p = true) ∧ ∃ p, y.lst a p = true) → ∀ a, (∃ p, fstS ks a p = true) ∧ (∃ p, lstS ks a p = true) ∧ (∃ p, fstA ks a p = true) ∧ ∃ p, lstA ks a p = true := by
        intro ks
        induction ks with
        | nil => intro h; exact absurd rfl h
        | cons y ys ihy =>
          intro _ h a
          obtain ⟨⟨p, hp⟩, q, hq⟩ := h y (by simp) a
          refine ⟨⟨p, by rw [fstS, hp]; rfl⟩, ?_, ⟨p, by rw [fstA, hp]; rfl⟩, q, by rw [lstA, hq]; rfl⟩
          by_cases h0 : ys = []
          · subst h0; exact ⟨q, by rw [lstS, allE, hq]; rfl⟩
          · obtain ⟨_, ⟨r, hr⟩, _⟩ := ihy h0 (fun z hz => h z (by simp [hz])) (a + y.pn)
            exact ⟨r, by rw [lstS, hr, Bool.or_true]⟩
      obtain ⟨h1, h2, h3, h4⟩ := hS x.kids (hne k1) (fun y hy => ih y hy (hg.kids y hy)) a
      by_cases k2 : x.kind = 2
      · obtain ⟨p, hp⟩ := h1
        obtain ⟨q, hq⟩ := h2
        exact ⟨⟨p, by rw [X.fst_eq, if_neg k1, if_pos k2]; exact hp⟩, q, by rw [X.lst_eq, if_neg k1, if_pos k2]; exact hq⟩
      · obtain ⟨p, hp⟩ := h3
        obtain ⟨q, hq⟩ := h4
        exact ⟨⟨p, by rw [X.fst_eq, if_neg k1, if_neg k2]; exact hp⟩, q, by rw [X.lst_eq, if_neg k1, if_neg k2]; exact hq⟩
end Go.Proofs.YtnccgaanfjaimaaDoor

namespace Go.Proofs.YtnccgaanfjaimaaDoor
open Go.ChangeShapes Go.WideShapes Go.ChangeAt Go.RowKit
set_option linter.unusedVariables false
set_option linter.unusedSimpArgs false

attribute [local go_sem] Oper.semAt_some

/-- what lies in an Nfa's block -/
def nfC (sv lv : Value) (fo : Nat → Nat) (la : Nat) (em : Bool) : List Value := sv :: lv :: ((List.range 25).map (fun p => Value.int .u32 (fo p : Int)) ++ [.int .u32 (la : Int), .bool em])
theorem nfC_len (sv lv : Value) (fo : Nat → Nat) (la : Nat) (em : Bool) : (nfC sv lv fo la em).length = 29 := by simp [nfC]
theorem nfC_fol (sv lv : Value) (fo : Nat → Nat) (la : Nat) (em : Bool) {p : Nat} (hp : p < 25) : (nfC sv lv fo la em)[2 + p]? = some (.int .u32 (fo p)) := by
  rw [nfC, Nat.add_comm, List.getElem?_cons_succ, List.getElem?_cons_succ, List.getElem?_append_left (by simpa using hp)]
  simp [hp]
theorem nfC_set (sv lv : Value) (fo fo' : Nat → Nat) (la : Nat) (em : Bool) {p : Nat} (hp : p < 25) (h : ∀ q, q ≠ p → fo' q = fo q) : (nfC sv lv fo la em).set (2 + p) (.int .u32 (fo' p)) = nfC sv lv fo' la em := by
  apply List.ext_getElem?
  intro i
  by_cases hi : i = 2 + p
  · subst hi
    rw [List.getElem?_set_self (by rw [nfC_len]; omega), nfC_fol _ _ _ _ _ hp]
  · rw [List.getElem?_set_ne (by omega)]
    unfold nfC
    rcases i with _ | _ | i
    · rfl
    · rfl
    · rw [List.getElem?_cons_succ, List.getElem?_cons_succ, List.getElem?_cons_succ, List.getElem?_cons_succ]
      by_cases h25 : i < 25
      · rw [List.getElem?_append_left (by simpa using h25), List.getElem?_append_left (by simpa using h25)]
        simp [h25]
        rw [h i (by omega)]
      · rw [List.getElem?_append_right (by simpa using h25), List.getElem?_append_right (by simpa using h25)]
        simp

structure NfB (w : World) (B N : Nat) (sv lv : Value) (s : NS) (la : Nat) (em : Bool) : Prop where
  blk : w.heap[N]? = some (.cells (nfC sv lv s.fol la em).toArray 72 (0, 0))
  row : w.ownsRow B 9 1 lv s.labs.length (s.labs.map Value.string)
  low : B ≤ N
  pos : 0 < B
/-- what is below B, and what is no Nfa's and no row of texts, lies as it lay -/
structure Kn (B : Nat) (X Y : World) : Prop where
  os : Y.os = X.os
  tape : Y.tape = X.tape
  output : Y.output = X.output
  size : X.heap.size ≤ Y.heap.size
  low : ∀ k, k < B → Y.heap[k]? = X.heap[k]?
  cells : ∀ (k : Nat) (v : Array Value) (t : TypeId) (fr : Nat × Nat), X.heap[k]? = some (.cells v t fr) → t ≠ 72 → t ≠ 9 → t ≠ 122 → Y.heap[k]? = some (.cells v t fr)
theorem Kn.refl (B : Nat) (X : World) : Kn B X X := ⟨rfl, rfl, rfl, Nat.le_refl _, fun _ _ => rfl, fun _ _ _ _ h _ _ _ => h⟩
theorem Kn.trans {B : Nat} {X Y Z : World} (h : Kn B X Y) (k : Kn B Y Z) : Kn B X Z := ⟨k.os.trans h.os, k.tape.trans h.tape, k.output.trans h.output, Nat.le_trans h.size k.size, fun i hi => (k.low i hi).trans (h.low i hi), fun i v t fr hi h1 h2 h3 => k.cells i v t fr (h.cells i v t fr hi h1 h2 h3) h1 h2 h3⟩
theorem Kn.of_below {B : Nat} {X Y : World} (h : Below X.heap.size X Y) (hB : B ≤ X.heap.size) : Kn B X Y := ⟨h.os, h.tape, h.output, h.size, fun k hk => h.block k (by omega), fun k v t fr hk _ _ _ => (h.block k (Array.getElem?_eq_some_iff.1 hk).1).trans hk⟩
theorem Kn.below {B : Nat} {X Y : World} (h : Kn B X Y) : Below B X Y := ⟨h.os, h.tape, h.output, h.size, h.low⟩
theorem Kn.boxed {B A : Nat} {X Y : World} {t : TypeId} {v : Value} (h : Kn B X Y) (hb : Boxed X A t v) (h1 : t ≠ 72) (h2 : t ≠ 9) (h3 : t ≠ 122) : Boxed Y A t v := h.cells _ _ _ _ hb h1 h2 h3
theorem NfB.lt {w : World} {B N : Nat} {sv lv : Value} {s : NS} {la : Nat} {em : Bool} (h : NfB w B N sv lv s la em) : N < w.heap.size := (Array.getElem?_eq_some_iff.1 h.blk).1
theorem NfB.bel {w w' : World} {B N : Nat} {sv lv : Value} {s : NS} {la : Nat} {em : Bool} (h : NfB w B N sv lv s la em) (hb : Below w.heap.size w w') : NfB w' B N sv lv s la em :=
  ⟨(hb.block _ h.lt).trans h.blk, own_bel h.row hb, h.low, h.pos⟩
theorem NfB.rel {w w' : World} {B C N : Nat} {sv lv : Value} {s : NS} {la : Nat} {em : Bool} (h : NfB w B N sv lv s la em) (hr : Rel C w w') : NfB w' B N sv lv s la em :=
  ⟨hr.cells h.blk (by decide), hr.row h.row (by decide), h.low, h.pos⟩
theorem heap_set {W : World} {N k : Nat} {l : List Value} {t : TypeId} {fr : Nat × Nat} (h : W.heap[N]? = some (.cells l.toArray t fr)) (v : Value) : (W.setCell ⟨N, k, none⟩ v).heap[N]? = some (.cells (l.set k v).toArray t fr) := by
  simp [World.setCell, Array.getElem?_modify, h]
theorem NfB.fol {w : World} {B N : Nat} {sv lv : Value} {s : NS} {la : Nat} {em : Bool} (h : NfB w B N sv lv s la em) {p : Nat} (hp : p < 25) : w.cell? ⟨N, 2 + p, none⟩ = some (.int .u32 (s.fol p)) := by
  rw [cell_of_row _ _ _ _ _ _ h.blk, List.getElem?_toArray]
  exact nfC_fol _ _ _ _ _ hp
theorem NfB.frz {w : World} {B N : Nat} {sv lv : Value} {s : NS} {la : Nat} {em : Bool} (h : NfB w B N sv lv s la em) (k : Nat) : w.frozen? ⟨N, k, none⟩ = false := by simp [World.frozen?, h.blk]
theorem NfB.set {w : World} {B N : Nat} {sv lv : Value} {s : NS} {la : Nat} {em : Bool} (h : NfB w B N sv lv s la em) {p : Nat} (hp : p < 25) (fo' : Nat → Nat) (ho : ∀ q, q ≠ p → fo' q = s.fol q) :
    NfB (w.setCell ⟨N, 2 + p, none⟩ (.int .u32 (fo' p))) B N sv lv ⟨s.labs, fo'⟩ la em := by
  refine ⟨?_, ownsRow_setCell_other h.row (a := ⟨N, 2 + p, none⟩) (fun e => ?_) _, h.low, h.pos⟩
  · rw [heap_set h.blk, nfC_set _ _ _ _ _ _ hp ho]
  · rcases h.row.2 with ⟨he, _⟩ | ⟨g, cap, cur, he, _, hgg, _⟩
    · rw [he] at e; cases e
    · rw [he] at e
      injection e with e
      subst e
      rw [h.blk] at hgg
      injection hgg with hgg
      injection hgg with _ hgg _
      cases hgg
theorem Kn.set {w : World} {B N k : Nat} {a : Array Value} {t : TypeId} {fr : Nat × Nat} (h : w.heap[N]? = some (.cells a t fr)) (ht : t = 72 ∨ t = 9) (hB : B ≤ N) (v : Value) : Kn B w (w.setCell ⟨N, k, none⟩ v) := by
  refine ⟨rfl, rfl, rfl, by simp, fun j hj => Below.heap_setCell _ _ _ _ (by show j ≠ N; omega), fun j v' t' fr' hj h1 h2 _ => (Below.heap_setCell _ _ _ _ (fun e => ?_)).trans hj⟩
  obtain rfl : j = N := e
  rw [h] at hj
  injection hj with hj
  injection hj with _ hj _
  subst hj
  rcases ht with ht | ht
  · exact h1 ht
  · exact h2 ht

/-- some of a row are followed by others -/
def lnkL (fo : Nat → Nat) (l : List Nat) (tt : Nat) : Nat → Nat := fun p => if p ∈ l then fo p ||| tt else fo p
theorem lnkL_nil (fo : Nat → Nat) (tt : Nat) : lnkL fo [] tt = fo := by funext p; simp [lnkL]
theorem lnkL_snoc (fo : Nat → Nat) (l : List Nat) (p tt : Nat) : lnkL fo (l ++ [p]) tt p = lnkL fo l tt p ||| tt := by
  unfold lnkL
  rw [if_pos (by simp)]
  split
  · rw [Nat.or_assoc, Nat.or_self]
  · rfl
theorem lnkL_other (fo : Nat → Nat) (l : List Nat) (p tt q : Nat) (h : q ≠ p) : lnkL fo (l ++ [p]) tt q = lnkL fo l tt q := by
  unfold lnkL
  simp [h]
theorem lnkL_els (fo : Nat → Nat) {fr : Nat} (h : fr < 2 ^ 32) (tt : Nat) : lnkL fo (els fr) tt = lnk fo fr tt := by
  funext p
  unfold lnkL lnk
  by_cases hp : fr.testBit p = true
  · rw [if_pos hp, if_pos]
    exact mem_els.2 ⟨Nat.lt_of_not_le fun hge => (by rw [bit_false h hge] at hp; cases hp), hp⟩
  · rw [if_neg hp, if_neg]
    exact fun hm => hp (mem_els.1 hm).2
theorem lnkL_lt {fo : Nat → Nat} {l : List Nat} {tt : Nat} (h : ∀ p, fo p < 2 ^ 32) (ht : tt < 2 ^ 32) (p : Nat) : lnkL fo l tt p < 2 ^ 32 := by
  unfold lnkL
  split
  · exact Nat.or_lt_two_pow (h p) ht
  · exact h p

set_option maxRecDepth 100000 in
set_option maxHeartbeats 4000000 in
theorem link_any {w : World} {B N : Nat} {sv lv : Value} {s : NS} {la : Nat} {em : Bool} (h : NfB w B N sv lv s la em) (hT : Tb w) (hBw : B ≤ w.heap.size) {fr tt : Nat} (hfr : fr < 2 ^ 25) (hto : tt < 2 ^ 32) (hfo : ∀ p, s.fol p < 2 ^ 32) :
    Calls Tryd.prog 44 #[.pointer (some ⟨N, 0, none⟩), .int .u32 fr, .int .u32 tt] w fun e w' => e = .returned (.tuple #[]) ∧ NfB w' B N sv lv ⟨s.labs, lnk s.fol fr tt⟩ la em ∧ Kn B w w' := by
  refine (callsIn_wide (n := 12)).1 ?_
  refine callsIn_of_wp_marks Tryd.func44 rfl trivial ?_ rfl
  simp only [Tryd.ntmps44, List.size_toArray, List.length_cons, List.length_nil, Nat.reduceAdd, Nat.reduceSub, Array.replicate_succ, Array.replicate_zero, List.push_toArray, List.append_toArray, List.nil_append, List.cons_append]
  refine wpIn_wide.2 ?_
  go_wp2_with (go_at_call 68; refine (rising_any fr _).mono ?_; rintro e w1 ⟨rfl, rfl⟩)
  have hb1 : Below w.heap.size w (((w.alloc (.cells #[.pointer (some ⟨N, 0, none⟩)] 29)).alloc (.cells #[.int .u32 tt] 69)).alloc (.cells #[.int .u32 fr] 69)) := (((Below.refl _ w).alloc (Nat.le_refl _) _).alloc (by simp) _).alloc (by simp; omega) _
  have hx0 : Boxed (((w.alloc (.cells #[.pointer (some ⟨N, 0, none⟩)] 29)).alloc (.cells #[.int .u32 tt] 69)).alloc (.cells #[.int .u32 fr] 69)) w.heap.size 29 (.pointer (some ⟨N, 0, none⟩)) := ((Boxed.new w _ _).alloc _).alloc _
  have hx1 : Boxed (((w.alloc (.cells #[.pointer (some ⟨N, 0, none⟩)] 29)).alloc (.cells #[.int .u32 tt] 69)).alloc (.cells #[.int .u32 fr] 69)) (w.heap.size + 1) 69 (.int .u32 tt) := by
    have h := Boxed.new (w.alloc (.cells #[.pointer (some ⟨N, 0, none⟩)] 29)) 69 (.int .u32 tt)
    rw [World.size_alloc] at h
    exact h.alloc _
  have hx2 : Boxed (((w.alloc (.cells #[.pointer (some ⟨N, 0, none⟩)] 29)).alloc (.cells #[.int .u32 tt] 69)).alloc (.cells #[.int .u32 fr] 69)) (w.heap.size + 1 + 1) 69 (.int .u32 fr) := by
    have h := Boxed.new ((w.alloc (.cells #[.pointer (some ⟨N, 0, none⟩)] 29)).alloc (.cells #[.int .u32 tt] 69)) 69 (.int .u32 fr)
    rwa [World.size_alloc, World.size_alloc] at h
  generalize hW1 : ((w.alloc (.cells #[.pointer (some ⟨N, 0, none⟩)] 29)).alloc (.cells #[.int .u32 tt] 69)).alloc (.cells #[.int .u32 fr] 69) = w1 at *
  have hz1 : w1.heap.size = w.heap.size + 3 := by rw [← hW1]; simp
  have hfr32 : fr < 2 ^ 32 := Nat.lt_of_lt_of_le hfr (by decide)
  have hseq := rising_seq 11 (by decide) hx2 (hT.below hb1 hT.pos) hfr32
  have HSEQ := Lib.hid hseq
  have HT1 := Lib.hid (hT.below hb1 hT.pos)
  have HN1 := Lib.hid (h.bel hb1)
  have HK1 := Lib.hid (Kn.of_below hb1 hBw)
  have HFO := Lib.hid hfo
  have HEL := Lib.hid (lnkL_els s.fol hfr32 tt)
  have hpos := h.pos
  have hlow := h.low
  clear hseq hT h hfo hx2 hW1
  refine wpIn_wide.1 (?_ : Code.wpIn Fence.wide 12 Tryd.prog _ _ _ _)
  refine wpIn_rangeFunc_X rfl (by omega) (gf := 84) (lb := #[.pointer (some ⟨w.heap.size + 1 + 1, 0, none⟩)]) rfl trivial (enters_of Tryd.func84 (by kernel_rfl) rfl)
    HSEQ.out KpT.trans (fun W' l' o o' hlw hl' ho _ => KpT.put (by omega)) (Below.refl _ _) (fun _ => rfl)
    (fun pre W' => Boxed W' w.heap.size 29 (.pointer (some ⟨N, 0, none⟩)) ∧ Boxed W' (w.heap.size + 1) 69 (.int .u32 tt) ∧ NfB W' B N sv lv ⟨s.labs, lnkL s.fol pre tt⟩ la em ∧ Kn B w W' ∧ w1.heap.size ≤ W'.heap.size ∧ Tb W')
    (fun _ _ _ => False)
    ?hI (fun c s X Y h => h.elim)
    ⟨hx0, hx1, by rw [lnkL_nil]; exact HN1.out, HK1.out, Nat.le_refl _, HT1.out⟩
    (fun p a' W' => a' = { tmps := #[.pointer (some ⟨N, 0, none⟩), .int .u32 fr, .int .u32 tt, .pointer (some ⟨w.heap.size, 0, none⟩), undef, .pointer (some ⟨w.heap.size + 1, 0, none⟩), .int .i64 p, .int .u32 fr, .func (.func 84) #[] #[.pointer (some ⟨w.heap.size + 1 + 1, 0, none⟩)], .int .i64 p, undef, undef, undef, undef, undef, undef, undef, undef, undef, undef, undef], defers := [] })
    (fun _ _ _ _ _ h _ => h) ?assign ?body ?done (fun _ _ _ _ _ _ h _ => h.elim)
  case hI =>
    rintro pre X Y ⟨h1, h2, h3, h4, h5, h6⟩ hr
    exact ⟨hr.cells h1 (by decide), hr.cells h2 (by decide), h3.rel hr, h4.trans ⟨hr.os, hr.tape, hr.output, hr.size, fun k hk => hr.block k (by have := h4.size; omega) (.inl (by omega)), fun k v t fr hk h1 h2 h3 => hr.cells hk h3⟩, Nat.le_trans h5 hr.size, h6.low (hr.block 0 h6.pos (.inl (by omega)))⟩
  case assign =>
    intro l1 pre p W' K hI hpx hK
    have HK := Lib.hid hK
    have HI' := Lib.hid hI
    unfold encN
    clear hK hI
    gi_wp2
    exact HK.out _ _ (KeepsFrom.refl _ _) (fun h => h) HI'.out rfl
  case body =>
    rintro l1 pre p a' W hwl hloop hpx ⟨h1, h2, h3, h4, h5, h6⟩ rfl
    have hp : p < 25 := by
      have hm : p ∈ els fr := hpx.subset (by simp)
      exact Nat.lt_of_not_le fun hge => by
        have := (mem_els.1 hm).2
        rw [bit_false hfr hge] at this
        cases this
    have hor := u32_or (lnkL s.fol pre tt p) tt (lnkL_lt HFO.out hto p) hto
    rw [← lnkL_snoc] at hor
    have c1 := h1.cell
    have c2 := h2.cell
    have c3 := h3.fol hp
    have f3 := h3.frz (2 + p)
    have R := Lib.hid (And.intro h3 (And.intro h4 (And.intro h5 h6)))
    have HX := Lib.hid (And.intro h1 h2)
    simp only at c3
    generalize lnkL s.fol pre tt p = F at *
    clear h1 h2 h3 h4 h5 h6
    have hcell : W.drew.cell? ⟨N, 2 + p, none⟩ = some (.int .u32 F) := c3
    have S0 := Lib.hid (show W.drew.cell? ⟨w.heap.size, 0, none⟩ = some (.pointer (some ⟨N, 0, none⟩)) ∧ W.drew.cell? ⟨w.heap.size + 1, 0, none⟩ = some (.int .u32 tt) from ⟨c1, c2⟩)
    have C3 := Lib.hid hcell
    have F3 := Lib.hid (show W.drew.frozen? ⟨N, 2 + p, none⟩ = false from f3)
    have HOR := Lib.hid hor
    have HG := Lib.hid (lnkL_other s.fol pre p tt)
    have hnw : N ≠ w.heap.size := by rintro rfl; exact absurd (R.out.1.blk.symm.trans HX.out.1) (by simp)
    have hnw1 : N ≠ w.heap.size + 1 := by rintro rfl; exact absurd (R.out.1.blk.symm.trans HX.out.2) (by simp)
    have hdr : Below W.heap.size W W.drew := (Below.refl _ _).drew
    have hfin : NfB (W.drew.setCell ⟨N, 2 + p, none⟩ (.int .u32 ((lnkL s.fol (pre ++ [p]) tt p : Nat) : Int))) B N sv lv ⟨s.labs, lnkL s.fol (pre ++ [p]) tt⟩ la em := (R.out.1.bel hdr).set hp _ HG.out
    have hk : Kn B W.drew (W.drew.setCell ⟨N, 2 + p, none⟩ (.int .u32 ((lnkL s.fol (pre ++ [p]) tt p : Nat) : Int))) := Kn.set (R.out.1.bel hdr).blk (.inl rfl) hlow _
    have hkk := (Kn.of_below hdr (Nat.le_trans hBw (by have := R.out.2.1.size; exact this))).trans hk
    have b1 := hkk.boxed HX.out.1 (by decide) (by decide) (by decide)
    have b2 := hkk.boxed HX.out.2 (by decide) (by decide) (by decide)
    generalize hG : lnkL s.fol (pre ++ [p]) tt p = G at *
    have S1 := Lib.hid (And.intro b1.cell b2.cell)
    have FIN := Lib.hid (show KeepsFrom w1.heap.size W (W.drew.setCell ⟨N, 2 + p, none⟩ (.int .u32 (G : Int))) ∧ KpT W (W.drew.setCell ⟨N, 2 + p, none⟩ (.int .u32 (G : Int))) ∧ Boxed (W.drew.setCell ⟨N, 2 + p, none⟩ (.int .u32 (G : Int))) w.heap.size 29 (.pointer (some ⟨N, 0, none⟩)) ∧ Boxed (W.drew.setCell ⟨N, 2 + p, none⟩ (.int .u32 (G : Int))) (w.heap.size + 1) 69 (.int .u32 tt) ∧ NfB (W.drew.setCell ⟨N, 2 + p, none⟩ (.int .u32 (G : Int))) B N sv lv ⟨s.labs, lnkL s.fol (pre ++ [p]) tt⟩ la em ∧ Kn B w (W.drew.setCell ⟨N, 2 + p, none⟩ (.int .u32 (G : Int))) ∧ w1.heap.size ≤ (W.drew.setCell ⟨N, 2 + p, none⟩ (.int .u32 (G : Int))).heap.size ∧ Tb (W.drew.setCell ⟨N, 2 + p, none⟩ (.int .u32 (G : Int)))
      from ⟨((below_others hdr).from _).trans ((KeepsOthers.setCell W.drew _ _).from _), fun h => h.low (hkk.low 0 hpos), b1, b2, hfin, R.out.2.1.trans hkk, by simpa using R.out.2.2.1, R.out.2.2.2.low (hkk.low 0 hpos)⟩)
    clear hcell c1 c2 c3 f3 hor hfin hk hkk b1 b2 hnw hnw1 hdr
    gi_wp2
    refine wpIn_round_held (S := fun w' => w'.cell? ⟨w.heap.size, 0, none⟩ = some (.pointer (some ⟨N, 0, none⟩)) ∧ w'.cell? ⟨w.heap.size + 1, 0, none⟩ = some (.int .u32 tt)) (by kernel_rfl) (by kernel_rfl) (fun ⟨_, _, h⟩ => h) S0.out (fun _ => ?_)
    refine wpAnyH_take (i := 0) (v := .pointer (some ⟨N, 0, none⟩)) rfl (by kernel_rfl) (by kernel_rfl) (by kernel_rfl) (fun _ _ _ h => h) (Or.inl ⟨by rfl, ?_⟩) S0.out ?_
    · intro w hSw
      obtain ⟨hs0, hs1⟩ := hSw
      go_simp
    try simp only [Act.put, List.setIfInBounds_toArray, List.set_cons_zero, List.set_cons_succ]
    refine wpAnyH_take (i := 1) (v := .int .i64 p) rfl (by kernel_rfl) (by kernel_rfl) (by kernel_rfl) (fun _ _ _ h => h) (Or.inl ⟨by rfl, ?_⟩) S0.out ?_
    · intro w hSw
      obtain ⟨hs0, hs1⟩ := hSw
      go_simp
    try simp only [Act.put, List.setIfInBounds_toArray, List.set_cons_zero, List.set_cons_succ]
    refine wpAnyH_take (i := 2) (v := .pointer (some ⟨N, 0, none⟩)) rfl (by kernel_rfl) (by kernel_rfl) (by kernel_rfl) (fun _ _ _ h => h) (Or.inl ⟨by rfl, ?_⟩) S0.out ?_
    · intro w hSw
      obtain ⟨hs0, hs1⟩ := hSw
      go_simp
    try simp only [Act.put, List.setIfInBounds_toArray, List.set_cons_zero, List.set_cons_succ]
    refine wpAnyH_take (i := 3) (v := .pointer (some ⟨N, 2, none⟩)) rfl (by kernel_rfl) (by kernel_rfl) (by kernel_rfl) (fun _ _ _ h => h) (Or.inl ⟨by rfl, ?_⟩) S0.out ?_
    · intro w hSw
      obtain ⟨hs0, hs1⟩ := hSw
      go_simp
    try simp only [Act.put, List.setIfInBounds_toArray, List.set_cons_zero, List.set_cons_succ]
    refine wpAnyH_take (i := 4) (v := .pointer (some ⟨N, 2 + p, none⟩)) rfl (by kernel_rfl) (by kernel_rfl) (by kernel_rfl) (fun _ _ _ h => h) (Or.inl ⟨by rfl, ?_⟩) S0.out ?_
    · intro w hSw
      obtain ⟨hs0, hs1⟩ := hSw
      go_simp
      intro hge
      omega
    try simp only [Act.put, List.setIfInBounds_toArray, List.set_cons_zero, List.set_cons_succ]
    refine wpAnyH_take (i := 6) (v := .int .u32 tt) rfl (by kernel_rfl) (by kernel_rfl) (by kernel_rfl) (fun _ _ _ h => h) (Or.inl ⟨by rfl, ?_⟩) S0.out ?_
    · intro w hSw
      obtain ⟨hs0, hs1⟩ := hSw
      go_simp
    try simp only [Act.put, List.setIfInBounds_toArray, List.set_cons_zero, List.set_cons_succ]
    refine wpAnyH_take (i := 8) (v := .pointer (some ⟨N, 0, none⟩)) rfl (by kernel_rfl) (by kernel_rfl) (by kernel_rfl) (fun _ _ _ h => h) (Or.inl ⟨by rfl, ?_⟩) S0.out ?_
    · intro w hSw
      obtain ⟨hs0, hs1⟩ := hSw
      go_simp
    try simp only [Act.put, List.setIfInBounds_toArray, List.set_cons_zero, List.set_cons_succ]
    refine wpAnyH_take (i := 9) (v := .pointer (some ⟨N, 2, none⟩)) rfl (by kernel_rfl) (by kernel_rfl) (by kernel_rfl) (fun _ _ _ h => h) (Or.inl ⟨by rfl, ?_⟩) S0.out ?_
    · intro w hSw
      obtain ⟨hs0, hs1⟩ := hSw
      go_simp
    try simp only [Act.put, List.setIfInBounds_toArray, List.set_cons_zero, List.set_cons_succ]
    refine wpAnyH_ready (rs := [5]) (by kernel_rfl) (by simp) ?_
    refine AllReadyH.cons rfl (fun K hK => ?_) AllReadyH.nil
    have c3 := C3.out
    go_simp
    refine hK.out _ _ S0.out (fun _ => ?_)
    clear hK
    try simp only [Act.put, List.setIfInBounds_toArray, List.set_cons_zero, List.set_cons_succ]
    refine wpAnyH_take (i := 7) (v := .int .u32 (G : Nat)) rfl (by kernel_rfl) (by kernel_rfl) (by kernel_rfl) (fun _ _ _ h => h) (Or.inl ⟨by rfl, ?_⟩) S0.out ?_
    · intro w hSw
      obtain ⟨hs0, hs1⟩ := hSw
      have hor := HOR.out
      go_simp
    try simp only [Act.put, List.setIfInBounds_toArray, List.set_cons_zero, List.set_cons_succ]
    refine wpAnyH_take (i := 10) (v := .pointer (some ⟨N, 2 + p, none⟩)) rfl (by kernel_rfl) (by kernel_rfl) (by kernel_rfl) (fun _ _ _ h => h) (Or.inl ⟨by rfl, ?_⟩) S0.out ?_
    · intro w hSw
      obtain ⟨hs0, hs1⟩ := hSw
      go_simp
      intro hge
      omega
    try simp only [Act.put, List.setIfInBounds_toArray, List.set_cons_zero, List.set_cons_succ]
    refine wpAnyH_ready (rs := [11]) (by kernel_rfl) (by simp) ?_
    refine AllReadyH.cons rfl (fun K hK => ?_) AllReadyH.nil
    have f3 := F3.out
    have c3 := C3.out
    go_simp
    refine hK.out _ _ S1.out (fun _ => ?_)
    clear hK
    try simp only [Act.put, List.setIfInBounds_toArray, List.set_cons_zero, List.set_cons_succ]
    refine ⟨by kernel_rfl, ?_⟩
    exact FIN.out
  case done =>
    rintro D W hD ⟨h1, h2, h3, h4, h5, h6⟩ hK
    rw [HEL.out] at h3
    have R := Lib.hid (And.intro h3 h4)
    clear h1 h2 h3 h4 h6
    go_wp2_with fail
    refine ⟨by simp, .inl ⟨_, _, rfl, run_takeDeferred hK, ?_⟩⟩
    refine ⟨.tuple #[], results_none rfl _ _ _, rfl, ?_⟩
    have hr : Rel w1.heap.size W (W.putObj D (.deferred none)) := Rel.grown (grownBy_putObj' W D (.deferred none)) fun r e => by cases e; exact ⟨hD, _, hK, .inl rfl⟩
    exact ⟨R.out.1.rel hr, R.out.2.trans ⟨hr.os, hr.tape, hr.output, hr.size, fun k hk => hr.block k (by have := R.out.2.size; omega) (.inl (by omega)), fun k v t fr hk h1 h2 h3 => hr.cells hk h3⟩⟩
end Go.Proofs.YtnccgaanfjaimaaDoor

namespace Go.Proofs.YtnccgaanfjaimaaDoor
open Go.ChangeShapes Go.WideShapes Go.ChangeAt Go.RowKit Go.Maps
set_option linter.unusedVariables false
set_option linter.unusedSimpArgs false

theorem info5 : (Tryd.prog.info? 5).map (fun i => (i.zero, i.size, i.bytes)) = some (some (.int .u8 0), 1, 1) := by kernel_rfl
theorem info9 : (Tryd.prog.info? 9).map (fun i => (i.zero, i.size, i.bytes)) = some (some (.string ⟨#[]⟩), 1, 16) := by kernel_rfl
set_option maxHeartbeats 4000000 in
set_option maxRecDepth 100000 in
theorem clone_in (s : ByteArray) (w : World) (hlim : s.size ≤ 140737488355328) :
    Calls Tryd.prog 100 #[.string s] w fun e w' => e = .returned (.string s) ∧ Below w.heap.size w w' := by
  by_cases h0 : s.size = 0
  · obtain rfl : s = ⟨#[]⟩ := ByteArray.ext (Array.eq_empty_of_size_eq_zero h0)
    clear h0 hlim
    go_enter Tryd.func100, Tryd.ntmps100
    go_wp2
    go_ret
    exact ⟨rfl, Below.refl _ _⟩
  · obtain ⟨i0, hi, hz0, hz1, hz2⟩ := info_parts info5
    have hinfo : (Tryd.prog.info? 5).map (·.size) = some 1 := by rw [hi]; simp [hz1]
    have hco : Tryd.prog.cellsOf 5 = 1 := by simp [Program.cellsOf, hi, hz1]
    obtain ⟨M, hM⟩ : ∃ M, M = madeCells (Value.int .u8 0).cells (((s.size : Nat) : Int).toNat * i0.size) := ⟨_, rfl⟩
    have hMs : M.size = s.size := by rw [hM, size_madeCells, hz1]; simp
    have hmk : ∀ W : World, (Instr.makeSlice 104 (.int .i64 (s.size : Int)) (.int .i64 (s.size : Int))).run Tryd.prog W = .ok (.slice (some ⟨W.heap.size, 0, none⟩) s.size s.size) (W.alloc (.cells M 5)) := fun W => by
      have h := run_make (P := Tryd.prog) W 104 5 i0 (.int .u8 0) Tryd.underlying104 hi hz0 .i64 .i64 (s.size : Int) (s.size : Int) (by omega) (by omega) (by rw [hz2]; omega) (by omega)
      rw [← hM] at h
      simpa using h
    clear hM
    have hcp := Lib.run_copy_row_string (P := Tryd.prog) (w.alloc (.cells M 5)) 104 9 3 5 w.heap.size 0 s.size s.size s M 5 Tryd.underlying104 hinfo (heap_alloc_new w _) (Nat.le_refl _) (by omega)
    obtain ⟨Y, hY⟩ : ∃ Y, Y = (M.toList.take 0 ++ Lib.byteCells s.data.toList ++ M.toList.drop (0 + s.size)).toArray := ⟨_, rfl⟩
    rw [← hY] at hcp
    have hYl : Y.toList = Lib.byteCells s.data.toList := by
      rw [hY, List.toList_toArray, List.take_zero, List.nil_append, List.drop_of_length_le (by rw [Array.length_toList]; omega), List.append_nil]
    have hYs : Y.size = s.size := by rw [← Array.length_toList, hYl, Lib.byteCells_length, ← Lib.size_eq]
    have hgY : ((w.alloc (.cells M 5)).setRow w.heap.size Y).heap[w.heap.size]? = some (.cells Y 5 (0, 0)) := setRow_heap _ _ M _ 5 (0, 0) (heap_alloc_new w _)
    have hne : s.data.toList ≠ [] := fun e => h0 (by rw [Lib.size_eq, e]; rfl)
    have hUS := Lib.run_unsafeString_row (P := Tryd.prog) ((w.alloc (.cells M 5)).setRow w.heap.size Y) 132 3 9 5 Tryd.underlying132 hco w.heap.size Y.size (by unfold World.shape?; rw [hgY]) s.data.toList hne (by rw [← Lib.size_eq]; omega) (by rw [← Lib.size_eq]; omega)
      (fun j x hx => Lib.cells_of_row hgY Y.size j _ (by rw [List.take_of_length_le (by rw [Array.length_toList]; exact Nat.le_refl _), hYl]; simp [Lib.byteCells, hx]))
    rw [← Lib.size_eq] at hUS
    clear hY
    go_enter Tryd.func100, Tryd.ntmps100
    go_wp2
    go_ret
    have hb1 : Below w.heap.size w (w.alloc (.cells M 5)) := (Below.refl _ w).alloc (Nat.le_refl _) _
    have hb2 : Below w.heap.size (w.alloc (.cells M 5)) ((w.alloc (.cells M 5)).setRow w.heap.size Y) := ⟨rfl, rfl, rfl, by simp, fun k hk => setRow_other _ _ _ _ (by omega)⟩
    exact ⟨rfl, Lib.below_freeze (hb1.trans hb2) (p := ⟨w.heap.size, 0, none⟩) (Nat.le_refl _) _⟩

theorem clone_any (s : ByteArray) (w : World) (hlim : s.size ≤ 140737488355328) :
    Calls Tryd.prog 83 #[.string s] w fun e w' => e = .returned (.string s) ∧ Below w.heap.size w w' := by
  go_enter Tryd.func83, Tryd.ntmps83
  go_wp2_with (go_at_call 100; refine (clone_in s _ hlim).mono ?_; rintro e w' ⟨rfl, hb⟩)
  go_ret
  exact ⟨rfl, hb⟩
end Go.Proofs.YtnccgaanfjaimaaDoor

namespace Go.Proofs.YtnccgaanfjaimaaDoor
open Go.ChangeShapes Go.WideShapes Go.ChangeAt Go.RowKit
set_option linter.unusedVariables false
set_option linter.unusedSimpArgs false

def RunC (x : X) : Prop := ∀ (w : Nat → ByteArray) (b : Nat → Bool) (k : Nat), hd (run x w b k) = true ↔ ∃ i, i < k ∧ b i = true ∧ x.L (seg w i k)

theorem row_runs (w : Nat → ByteArray) : ∀ (ks : List X), goodL ks → (∀ y ∈ ks, RunC y) → ∀ (b : Nat → Bool) (e : Bool) (k : Nat),
    (rowS (w k) ks (runS ks w b k) (b k) e).2.1 = true ↔ (∃ i, i ≤ k ∧ b i = true ∧ LS ks (seg w i (k + 1))) ∨ (e = true ∧ LS ks [])
  | [], _, _, b, e, k => by
    rw [rowS_nil]
    simp only [LS_nil, and_true]
    constructor
    · exact fun h => .inr h
    · rintro (⟨i, hi, _, h⟩ | h)
      · exact absurd h (seg_ne w (by omega))
      · exact h
  | x :: xs, hg, hr, b, e, k => by
    have hx := hg x (by simp)
    have hl := run_len hx w b k
    rw [rowS_cons, runS_cons hx xs w b k]
    simp only
    rw [List.take_left' hl, List.drop_left' hl]
    have ih := row_runs w xs (fun z hz => hg z (by simp [hz])) (fun z hz => hr z (by simp [hz])) (nextB x w b) (hd (stepF (w k) x (run x w b k) (b k)) || (e && x.emp)) k
    rw [show (hd (run x w b k) || (b k && x.emp)) = nextB x w b k from rfl, ih]
    have hc := hr x (by simp)
    have hn : ∀ i, nextB x w b i = true ↔ ∃ j, j ≤ i ∧ b j = true ∧ x.L (seg w j i) := by
      intro i
      unfold nextB
      rw [Bool.or_eq_true, hc w b i, Bool.and_eq_true, emp_iff x hx]
      constructor
      · rintro (⟨j, h1, h2, h3⟩ | ⟨h1, h2⟩)
        · exact ⟨j, by omega, h2, h3⟩
        · exact ⟨i, Nat.le_refl _, h1, by rw [seg_self]; exact h2⟩
      · rintro ⟨j, h1, h2, h3⟩
        by_cases hji : j = i
        · subst hji
          exact .inr ⟨h2, by rw [seg_self] at h3; exact h3⟩
        · exact .inl ⟨j, by omega, h2, h3⟩
    have h1 := hc w b (k + 1)
    rw [show run x w b (k + 1) = stepF (w k) x (run x w b k) (b k) from rfl] at h1
    rw [Bool.or_eq_true, h1, Bool.and_eq_true, emp_iff x hx, LS_cons]
    simp only [LS_cons]
    constructor
    · rintro (⟨i, hi, h2, h3⟩ | ⟨⟨i, hi, h2, h3⟩ | ⟨h2, h3⟩, h4⟩)
      · obtain ⟨j, hj, h4, h5⟩ := (hn i).1 h2
        exact .inl ⟨j, by omega, h4, _, _, (seg_app w hj (by omega)).symm, h5, h3⟩
      · exact .inl ⟨i, by omega, h2, _, _, (List.append_nil _).symm, h3, h4⟩
      · exact .inr ⟨h2, [], [], rfl, h3, h4⟩
    · rintro (⟨i, hi, h2, p, q, e1, h3, h4⟩ | ⟨h2, p, q, e1, h3, h4⟩)
      · obtain ⟨j, hj1, hj2, rfl, rfl⟩ := seg_split (by omega) e1
        by_cases hjk : j = k + 1
        · subst hjk
          rw [seg_self] at h4
          exact .inr ⟨.inl ⟨i, by omega, h2, h3⟩, h4⟩
        · exact .inl ⟨j, by omega, (hn j).2 ⟨i, hj1, h2, h3⟩, h4⟩
      · obtain ⟨rfl, rfl⟩ := List.append_eq_nil_iff.1 e1.symm
        exact .inr ⟨.inr ⟨h2, h3⟩, h4⟩
theorem alt_runs (w : Nat → ByteArray) : ∀ (ks : List X), goodL ks → (∀ y ∈ ks, RunC y) → ∀ (b : Nat → Bool) (e : Bool) (k : Nat),
    (altS (w k) ks (runA ks w b k) (b k) e).1 = true ↔ (∃ i, i ≤ k ∧ b i = true ∧ LA ks (seg w i (k + 1))) ∨ e = true
  | [], _, _, b, e, k => by
    rw [altS_nil]
    simp only [LA_nil, and_false, exists_false, false_or]
  | x :: xs, hg, hr, b, e, k => by
    have hx := hg x (by simp)
    have hl := run_len hx w b k
    rw [altS_cons, runA_cons hx xs w b k]
    simp only
    rw [List.take_left' hl, List.drop_left' hl, alt_runs w xs (fun z hz => hg z (by simp [hz])) (fun z hz => hr z (by simp [hz])) b _ k, Bool.or_eq_true]
    have h1 := hr x (by simp) w b (k + 1)
    rw [show run x w b (k + 1) = stepF (w k) x (run x w b k) (b k) from rfl] at h1
    rw [h1]
    simp only [LA_cons]
    constructor
    · rintro (⟨i, hi, h2, h3⟩ | h2 | ⟨i, hi, h2, h3⟩)
      · exact .inl ⟨i, hi, h2, .inr h3⟩
      · exact .inr h2
      · exact .inl ⟨i, by omega, h2, .inl h3⟩
    · rintro (⟨i, hi, h2, h3 | h3⟩ | h2)
      · exact .inr (.inr ⟨i, by omega, h2, h3⟩)
      · exact .inl ⟨i, hi, h2, h3⟩
      · exact .inr (.inl h2)

theorem run_any : ∀ x : X, x.good → RunC x := by
  intro x
  induction x using X.ind' with
  | h x ih =>
    intro hg w b k
    have ih' : ∀ y ∈ x.kids, RunC y := fun y hy => ih y hy (hg.kids y hy)
    have hf := hg.fit
    have hz : hd (run x w b 0) = false := by
      rw [run, X.sz_eq]
      rw [Nat.add_comm, List.replicate_succ]
      rfl
    cases k with
    | zero =>
      rw [hz]
      constructor
      · intro h; cases h
      · rintro ⟨i, hi, _⟩; omega
    | succ k =>
      have ht : ∀ n : Nat, List.tail (List.replicate x.sz false) = List.replicate (szL x.kids) false := fun n => by rw [X.sz_eq, Nat.add_comm, List.replicate_succ]; rfl
      rw [run, stepF_eq]
      rcases good_kind hg with h | h | h | h
      · simp only [h, if_true]
        rw [show hd ((b k && decide (x.lab = w k)) :: (run x w b k).tail) = (b k && decide (x.lab = w k)) from rfl, Bool.and_eq_true, decide_eq_true_eq]
        constructor
        · rintro ⟨h1, h2⟩
          exact ⟨k, by omega, h1, by rw [X.L_eq, if_pos h, seg_one, h2]⟩
        · rintro ⟨i, hi, h1, h2⟩
          rw [X.L_eq, if_pos h] at h2
          have hl := congrArg List.length h2
          rw [seg_len] at hl
          simp at hl
          obtain rfl : i = k := by omega
          rw [seg_one] at h2
          injection h2 with h2 _
          exact ⟨h1, h2.symm⟩
      · have hrun : ∀ n, (run x w b n).tail = runS x.kids w b n := by
          intro n
          induction n with
          | zero => rw [run, runS, ht 0]
          | succ n ihn => rw [run, stepF_eq, if_neg (by omega), if_pos h, List.tail_cons, ihn, runS]
        rw [if_neg (by omega), if_pos h]
        rw [hrun k]
        rw [show ∀ (a : Bool) (l : List Bool), hd (a :: l) = a from fun _ _ => rfl, row_runs w x.kids hg.kids ih' b false k]
        constructor
        · rintro (⟨i, hi, h1, h2⟩ | ⟨h1, _⟩)
          · exact ⟨i, by omega, h1, by rw [X.L_eq, if_neg (by omega), if_pos h]; exact h2⟩
          · cases h1
        · rintro ⟨i, hi, h1, h2⟩
          rw [X.L_eq, if_neg (by omega), if_pos h] at h2
          exact .inl ⟨i, by omega, h1, h2⟩
      · have hrun : ∀ n, (run x w b n).tail = runA x.kids w b n := by
          intro n
          induction n with
          | zero => rw [run, runA, ht 0]
          | succ n ihn => rw [run, stepF_eq, if_neg (by omega), if_neg (by omega), if_pos h, List.tail_cons, ihn, runA]
        rw [if_neg (by omega), if_neg (by omega), if_pos h]
        rw [hrun k]
        rw [show ∀ (a : Bool) (l : List Bool), hd (a :: l) = a from fun _ _ => rfl, alt_runs w x.kids hg.kids ih' b false k]
        constructor
        · rintro (⟨i, hi, h1, h2⟩ | h1)
          · refine ⟨i, by omega, h1, ?_⟩
            rw [X.L_eq, if_neg (by omega), if_neg (by omega)]
            rcases h with h | h
            · rw [if_pos h]; exact h2
            · rw [if_neg (by omega), if_pos h]; exact .inr h2
          · cases h1
        · rintro ⟨i, hi, h1, h2⟩
          refine .inl ⟨i, by omega, h1, ?_⟩
          rw [X.L_eq, if_neg (by omega), if_neg (by omega)] at h2
          rcases h with h | h
          · rw [if_pos h] at h2; exact h2
          · rw [if_neg (by omega), if_pos h] at h2
            rcases h2 with h2 | h2
            · exact absurd h2 (seg_ne w hi)
            · exact h2
      · obtain ⟨y, hy⟩ : ∃ y, x.kids = [y] := by
          unfold X.fits fitB at hf
          rcases h with h | h <;>
          · simp [h] at hf
            exact List.length_eq_one_iff.1 hf.2
        have hyr := ih' y (by rw [hy]; simp)
        have hyg := hg.kids y (by rw [hy]; simp)
        rw [hy] at ht
        have hrun : ∀ n, (run x w b n).tail = run y w (fun i => b i || hd ((run x w b i).tail)) n := by
          intro n
          induction n with
          | zero => rw [run, ht 0, run, szL_cons, szL_nil]; rfl
          | succ n ihn =>
            have hl := run_len hyg w (fun i => b i || hd ((run x w b i).tail)) n
            conv => lhs; rw [run, stepF_eq, if_neg (by omega), if_neg (by omega), if_neg (by omega), List.tail_cons, hy, altS_cons, altS_nil]
            simp only [List.append_nil]
            rw [ihn, List.take_of_length_le (by omega), run, ← ihn]
        have hstep : ∀ n, (altS (w n) x.kids (run x w b n).tail (b n || hd (run x w b n).tail) false).2 = (run x w b (n + 1)).tail := by
          intro n
          rw [run, stepF_eq, if_neg (by omega), if_neg (by omega), if_neg (by omega), List.tail_cons]
        rw [if_neg (by omega), if_neg (by omega), if_neg (by omega), hstep k]
        rw [show ∀ (a : Bool) (l : List Bool), hd (a :: l) = a from fun _ _ => rfl]
        have hA : ∀ v, LA x.kids v ↔ y.L v := fun v => by rw [hy, LA_cons, LA_nil, or_false]
        have main : ∀ n, hd (run x w b n).tail = true ↔ ∃ i, i < n ∧ b i = true ∧ Pl (LA x.kids) (seg w i n) := by
          intro n
          have hone : ∀ m, hd (run x w b m).tail = true ↔ ∃ i, i < m ∧ (b i = true ∨ hd (run x w b i).tail = true) ∧ y.L (seg w i m) := by
            intro m
            rw [hrun m, hyr]
            constructor
            · rintro ⟨i, h1, h2, h3⟩; exact ⟨i, h1, Bool.or_eq_true _ _ ▸ h2, h3⟩
            · rintro ⟨i, h1, h2, h3⟩; exact ⟨i, h1, by rw [Bool.or_eq_true]; exact h2, h3⟩
          constructor
          · induction n using Nat.strongRecOn with
            | ind n ihn =>
              intro hh
              obtain ⟨i, hi, h1, h2⟩ := (hone n).1 hh
              rcases h1 with h1 | h1
              · exact ⟨i, hi, h1, .one _ ((hA _).2 h2)⟩
              · obtain ⟨j, hj, h3, h4⟩ := ihn i hi h1
                refine ⟨j, by omega, h3, ?_⟩
                rw [← seg_app w (i := j) (j := i) (k := n) (by omega) (by omega)]
                exact .snoc _ _ h4 ((hA _).2 h2)
          · rintro ⟨i, hi, h1, h2⟩
            generalize hu : seg w i n = u at h2
            induction h2 generalizing n with
            | one p hp =>
              subst hu
              exact (hone n).2 ⟨i, hi, .inl h1, (hA _).1 hp⟩
            | snoc p q hp hq ihp =>
              obtain ⟨m, hm1, hm2, rfl, rfl⟩ := seg_split (by omega) hu
              by_cases hmi : m = i
              · subst hmi
                exact (hone n).2 ⟨m, hi, .inl h1, (hA _).1 hq⟩
              · by_cases hmn : m = n
                · subst hmn
                  exact ihp m hi rfl
                · exact (hone n).2 ⟨m, by omega, .inr (ihp m (by omega) rfl), (hA _).1 hq⟩
        rw [main (k + 1)]
        constructor
        · rintro ⟨i, hi, h1, h2⟩
          refine ⟨i, hi, h1, ?_⟩
          rw [X.L_eq, if_neg (by omega), if_neg (by omega), if_neg (by omega), if_neg (by omega)]
          split
          · exact .inr h2
          · exact h2
        · rintro ⟨i, hi, h1, h2⟩
          refine ⟨i, hi, h1, ?_⟩
          rw [X.L_eq, if_neg (by omega), if_neg (by omega), if_neg (by omega), if_neg (by omega)] at h2
          split at h2
          · rcases h2 with h2 | h2
            · exact absurd h2 (seg_ne w hi)
            · exact h2
          · exact h2

theorem flW_run (x : X) (word : List ByteArray) : ∀ k, flW x word k = run x (fun k => (word[k]?).getD ⟨#[]⟩) (fun k => decide (k = 0)) k
  | 0 => rfl
  | k + 1 => by rw [flW, flW_run x word k]; rfl
theorem seg_word (word : List ByteArray) : seg (fun k => (word[k]?).getD ⟨#[]⟩) 0 word.length = word := by
  unfold seg
  apply List.ext_getElem
  · simp
  · intro i h1 h2
    simp [List.getElem?_eq_getElem h2]
/-- what Takes tells -/
theorem takesB_iff (x : X) (word : List ByteArray) : takesB x word = true ↔ x.right = true ∧ x.L word := by
  unfold takesB
  rw [Bool.and_eq_true]
  constructor
  · rintro ⟨hr, h⟩
    obtain ⟨hg, -⟩ := right_good hr
    refine ⟨hr, ?_⟩
    rw [Bool.or_eq_true, Bool.and_eq_true, decide_eq_true_eq] at h
    rcases h with h | ⟨h1, h2⟩
    · rw [flW_run, run_any x hg] at h
      obtain ⟨i, hi, h1, h2⟩ := h
      obtain rfl : i = 0 := by simpa using h1
      rw [seg_word] at h2
      exact h2
    · obtain rfl : word = [] := List.eq_nil_of_length_eq_zero h1
      exact (emp_iff x hg).1 h2
  · rintro ⟨hr, h⟩
    obtain ⟨hg, -⟩ := right_good hr
    refine ⟨hr, ?_⟩
    rw [Bool.or_eq_true, Bool.and_eq_true, decide_eq_true_eq]
    by_cases h0 : word.length = 0
    · obtain rfl : word = [] := List.eq_nil_of_length_eq_zero h0
      exact .inr ⟨rfl, (emp_iff x hg).2 h⟩
    · left
      rw [flW_run, run_any x hg]
      exact ⟨0, by omega, by simp, by rw [seg_word]; exact h⟩
end Go.Proofs.YtnccgaanfjaimaaDoor
