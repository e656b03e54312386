/- Plain words on an edge's bytes: put, read by the program, read by the document. -/
import Derived.Test.YtpoefcpgcojppaaY
namespace Go.Proofs.Ytpoefcpgcojppaa
set_option linter.unusedVariables false

def oct (n : Int) : UInt8 := UInt8.ofNat (n % 256).toNat
theorem oct_int (n : Int) : ((oct n).toNat : Int) = n % 256 := by
  unfold oct
  rw [UInt8.toNat_ofNat']
  omega
theorem oct_of (c : UInt8) : oct (c.toNat : Int) = c := by
  apply UInt8.toNat_inj.1
  have := oct_int (c.toNat : Int)
  have h2 := c.toNat_lt
  omega
def txt (s : ByteArray) : List UInt8 := oct s.size :: s.data.toList
def num6 (n : Int) : List UInt8 := [oct (n / 1099511627776), oct (n / 4294967296), oct (n / 16777216), oct (n / 65536), oct (n / 256), oct n]
def valB (v : Vt) : List UInt8 := oct v.1 :: (if v.1 = 1 then num6 (v.2.1 + 1099511627776) else txt v.2.2)
def propB (p : Pt) : List UInt8 := txt p.1 ++ valB p.2
def propsB (l : List Pt) : List UInt8 := l.flatMap propB
def headB (e : Ed) : List UInt8 := txt e.src ++ txt e.dst ++ txt e.lab ++ num6 e.time
def putE (e : Ed) : List UInt8 := headB e ++ [oct e.props.length] ++ propsB e.props

theorem data_mk (s : ByteArray) : (⟨s.data.toList.toArray⟩ : ByteArray) = s := by
  apply ByteArray.ext
  simp
theorem data_size (s : ByteArray) : s.data.toList.length = s.size := Array.length_toList

/-! ### as the program reads -/
def beN (l : List UInt8) : Int := l.foldl (fun s c => s * 256 + (c.toNat : Int)) 0
def bT (l : List UInt8) : ByteArray := ⟨l.toArray⟩
def rdT (b : List UInt8) : ByteArray × List UInt8 := (bT ((b.drop 1).take (beN (b.take 1)).toNat), (b.drop 1).drop (beN (b.take 1)).toNat)
def rdV (b : List UInt8) : Vt × List UInt8 :=
  if beN (b.take 1) = 1 then ((1, beN ((b.drop 1).take 6) - 1099511627776, ⟨#[]⟩), (b.drop 1).drop 6)
  else if beN (b.take 1) = 2 then ((2, 0, (rdT (b.drop 1)).1), (rdT (b.drop 1)).2)
  else ((0, 0, ⟨#[]⟩), b.drop 1)
def rdP (b : List UInt8) : Pt × List UInt8 := (((rdT b).1, (rdV (rdT b).2).1), (rdV (rdT b).2).2)
def rdPs : Nat → List UInt8 → List Pt × List UInt8
  | 0, b => ([], b)
  | n + 1, b => ((rdPs n b).1 ++ [(rdP (rdPs n b).2).1], (rdP (rdPs n b).2).2)
def g1 (b : List UInt8) : List UInt8 := (rdT b).2
def g2 (b : List UInt8) : List UInt8 := (rdT (g1 b)).2
def g3 (b : List UInt8) : List UInt8 := (rdT (g2 b)).2
def g4 (b : List UInt8) : List UInt8 := (g3 b).drop 6
def g5 (b : List UInt8) : List UInt8 := (g4 b).drop 1
def gN (b : List UInt8) : Nat := (beN ((g4 b).take 1)).toNat
def guess (b : List UInt8) : Ed := ⟨(rdT b).1, (rdT (g1 b)).1, (rdT (g2 b)).1, beN ((g3 b).take 6), (rdPs (gN b) (g5 b)).1⟩

theorem beN_one (c : UInt8) (r : List UInt8) : beN ((c :: r).take 1) = c.toNat := by simp [beN]
theorem beN_nonneg : ∀ (l : List UInt8) (s : Int), 0 ≤ s → 0 ≤ l.foldl (fun s c => s * 256 + (c.toNat : Int)) s
  | [], s, h => h
  | c :: l, s, h => beN_nonneg l _ (by show (0 : Int) ≤ s * 256 + (c.toNat : Int); omega)
theorem beN_num (n : Int) (h0 : 0 ≤ n) (h1 : n < 281474976710656) : beN (num6 n) = n := by
  simp only [beN, num6, List.foldl_cons, List.foldl_nil, oct_int]
  omega
theorem num6_len (n : Int) : (num6 n).length = 6 := rfl
theorem beN_take6 (n : Int) (r : List UInt8) (h0 : 0 ≤ n) (h1 : n < 281474976710656) : beN ((num6 n ++ r).take 6) = n ∧ (num6 n ++ r).drop 6 = r := by
  rw [← num6_len n, List.take_left, List.drop_left]
  exact ⟨beN_num n h0 h1, rfl⟩
theorem rdT_put (s : ByteArray) (r : List UInt8) (h : s.size < 256) : rdT (txt s ++ r) = (s, r) := by
  have e1 : beN ((txt s ++ r).take 1) = s.size := by
    unfold txt
    rw [List.cons_append, beN_one, oct_int]
    omega
  have e2 : (txt s ++ r).drop 1 = s.data.toList ++ r := by unfold txt; rfl
  unfold rdT
  rw [e1, e2, Int.toNat_natCast, ← data_size s, List.take_left, List.drop_left]
  unfold bT
  rw [data_mk]
theorem right_cases {v : Vt} (h : rightV v = true) : (∃ n : Int, v = (1, n, ⟨#[]⟩) ∧ -1099511627776 ≤ n ∧ n ≤ 1099511627776) ∨ (∃ t, v = (2, 0, t) ∧ isT t = true) := by
  obtain ⟨k, n, t⟩ := v
  simp only [rightV, Bool.or_eq_true, Bool.and_eq_true, decide_eq_true_eq] at h
  rcases h with ⟨rfl, ⟨h1, h2⟩, rfl⟩ | ⟨rfl, rfl, h2⟩
  · exact .inl ⟨n, rfl, h1, h2⟩
  · exact .inr ⟨t, rfl, h2⟩
theorem isT_size {t : ByteArray} (h : isT t = true) : t.size ≤ 40 := by
  unfold isT at h
  rw [Bool.and_eq_true, decide_eq_true_eq] at h
  exact h.1
theorem verB_size {s : ByteArray} (h : verB s = true) : s.size ≤ 20 := by
  unfold verB at h
  rw [Bool.and_eq_true, decide_eq_true_eq] at h
  exact h.1.2
theorem freB_ver {s : ByteArray} (h : freB s = true) : verB s = true := by
  unfold freB at h
  rw [Bool.and_eq_true] at h
  exact h.1
theorem rdV_put {v : Vt} (h : rightV v = true) (r : List UInt8) : rdV (valB v ++ r) = (v, r) := by
  rcases right_cases h with ⟨n, rfl, h1, h2⟩ | ⟨t, rfl, h1⟩
  · have e : valB (1, n, ⟨#[]⟩) ++ r = oct 1 :: (num6 (n + 1099511627776) ++ r) := by simp [valB]
    obtain ⟨a1, a2⟩ := beN_take6 (n + 1099511627776) r (by omega) (by omega)
    unfold rdV
    rw [e, beN_one, if_pos (by rw [oct_int]; rfl)]
    simp only [List.drop_one, List.tail_cons]
    rw [a1, a2]
    simp only [Prod.mk.injEq, true_and, and_true]
    omega
  · have e : valB (2, 0, t) ++ r = oct 2 :: (txt t ++ r) := by simp [valB]
    have a := rdT_put t r (by have := isT_size h1; omega)
    unfold rdV
    rw [e, beN_one, if_neg (by rw [oct_int]; decide), if_pos (by rw [oct_int]; rfl)]
    simp only [List.drop_one, List.tail_cons]
    rw [a]
theorem rdP_put {p : Pt} (h1 : freB p.1 = true) (h2 : rightV p.2 = true) (r : List UInt8) : rdP (propB p ++ r) = (p, r) := by
  have hs := verB_size (freB_ver h1)
  unfold rdP propB
  rw [List.append_assoc, rdT_put _ _ (by omega), rdV_put h2]
theorem propsB_snoc (l : List Pt) (p : Pt) : propsB (l ++ [p]) = propsB l ++ propB p := by simp [propsB]
theorem rdPs_put (l : List Pt) (r : List UInt8) (h : ∀ p ∈ l, freB p.1 = true ∧ rightV p.2 = true) : ∀ k, k ≤ l.length → rdPs k (propsB l ++ r) = (l.take k, propsB (l.drop k) ++ r)
  | 0, _ => by simp [rdPs]
  | k + 1, hk => by
    have ih := rdPs_put l r h k (by omega)
    have e : l.drop k = l[k] :: l.drop (k + 1) := List.drop_eq_getElem_cons (by omega)
    have e2 : propsB (l.drop k) = propB l[k] ++ propsB (l.drop (k + 1)) := by rw [e]; exact List.flatMap_cons
    have hp := h l[k] (List.getElem_mem _)
    unfold rdPs
    rw [ih, e2, List.append_assoc, rdP_put hp.1 hp.2, List.take_succ_eq_append_getElem (by omega)]

/-! ### whether an edge is right -/
def okAt (l : List Pt) (k : Nat) (h : k < l.length) : Prop := freB l[k].1 = true ∧ rightV l[k].2 = true ∧ (0 < k → cmpB (l[k - 1]'(by omega)).1 l[k].1 = -1)
def areP (l : List Pt) : Prop := l.length ≤ 8 ∧ ∀ k (h : k < l.length), okAt l k h
open Classical in
noncomputable def areB (l : List Pt) : Bool := decide (areP l)
theorem areB_iff (l : List Pt) : areB l = true ↔ areP l := by simp [areB]
theorem areB_not (l : List Pt) (h : ¬ areP l) : areB l = false := by simp [areB, h]
open Classical in
noncomputable def checkE (e : Ed) : Int := if verB e.src = true ∧ verB e.dst = true ∧ freB e.lab = true ∧ areP e.props then (if timeB e.time = true then 0 else 6) else 2
theorem check_ok {e : Ed} : checkE e = 0 ↔ (verB e.src = true ∧ verB e.dst = true ∧ freB e.lab = true ∧ areP e.props) ∧ timeB e.time = true := by
  unfold checkE
  constructor
  · intro h
    split at h
    · rename_i h1
      split at h
      · rename_i h2
        exact ⟨h1, h2⟩
      · omega
    · omega
  · rintro ⟨h1, h2⟩
    rw [if_pos h1, if_pos h2]
theorem areP_mem {l : List Pt} (h : areP l) : ∀ p ∈ l, freB p.1 = true ∧ rightV p.2 = true := by
  intro p hp
  obtain ⟨k, hk, rfl⟩ := List.getElem_of_mem hp
  exact ⟨(h.2 k hk).1, (h.2 k hk).2.1⟩

def zeroE : Ed := ⟨⟨#[]⟩, ⟨#[]⟩, ⟨#[]⟩, 0, []⟩
open Classical in
noncomputable def parseE (b : List UInt8) : Ed × Int := if checkE (guess b) = 0 ∧ putE (guess b) = b then (guess b, 0) else (zeroE, 4)

theorem guess_put {e : Ed} (h : checkE e = 0) : guess (putE e) = e := by
  obtain ⟨⟨h1, h2, h3, h4⟩, h5⟩ := check_ok.1 h
  have s1 := verB_size h1
  have s2 := verB_size h2
  have s3 := verB_size (freB_ver h3)
  have s4 := h4.1
  unfold timeB at h5
  rw [decide_eq_true_eq] at h5
  have e0 : putE e = txt e.src ++ (txt e.dst ++ (txt e.lab ++ (num6 e.time ++ (oct e.props.length :: (propsB e.props ++ []))))) := by simp [putE, headB]
  have a1 := rdT_put e.src (txt e.dst ++ (txt e.lab ++ (num6 e.time ++ (oct e.props.length :: (propsB e.props ++ []))))) (by omega)
  have a2 := rdT_put e.dst (txt e.lab ++ (num6 e.time ++ (oct e.props.length :: (propsB e.props ++ [])))) (by omega)
  have a3 := rdT_put e.lab (num6 e.time ++ (oct e.props.length :: (propsB e.props ++ []))) (by omega)
  obtain ⟨a4, a5⟩ := beN_take6 e.time (oct e.props.length :: (propsB e.props ++ [])) h5.1 (by omega)
  have b1 : g1 (putE e) = txt e.dst ++ (txt e.lab ++ (num6 e.time ++ (oct e.props.length :: (propsB e.props ++ [])))) := by unfold g1; rw [e0, a1]
  have b2 : g2 (putE e) = txt e.lab ++ (num6 e.time ++ (oct e.props.length :: (propsB e.props ++ []))) := by unfold g2; rw [b1, a2]
  have b3 : g3 (putE e) = num6 e.time ++ (oct e.props.length :: (propsB e.props ++ [])) := by unfold g3; rw [b2, a3]
  have b4 : g4 (putE e) = oct e.props.length :: (propsB e.props ++ []) := by unfold g4; rw [b3, a5]
  have b5 : g5 (putE e) = propsB e.props ++ [] := by unfold g5; rw [b4]; rfl
  have bN : gN (putE e) = e.props.length := by unfold gN; rw [b4, beN_one, oct_int]; omega
  unfold guess
  rw [bN, b5, rdPs_put e.props [] (areP_mem h4) e.props.length (Nat.le_refl _), b3, a4, b2, a3, b1, a2, e0, a1]
  simp

theorem parse_put {e : Ed} (h : checkE e = 0) : parseE (putE e) = (e, 0) := by
  unfold parseE
  rw [guess_put h, if_pos ⟨h, rfl⟩]
theorem parse_cases (b : List UInt8) : (checkE (guess b) = 0 ∧ putE (guess b) = b ∧ parseE b = (guess b, 0)) ∨ ((∀ e, checkE e = 0 → putE e ≠ b) ∧ parseE b = (zeroE, 4)) := by
  unfold parseE
  by_cases h : checkE (guess b) = 0 ∧ putE (guess b) = b
  · exact .inl ⟨h.1, h.2, by rw [if_pos h]⟩
  · refine .inr ⟨fun e he hb => h ?_, by rw [if_neg h]⟩
    have := guess_put he
    rw [hb] at this
    rw [this]
    exact ⟨he, hb⟩
theorem put_inj {e e' : Ed} (h : checkE e = 0) (h' : checkE e' = 0) (hb : putE e = putE e') : e = e' := by
  rw [← guess_put h, hb, guess_put h']

/-! ### as the document reads -/
abbrev Rs := List UInt8 × Bool
def tk (n : Nat) (s : Rs) : List UInt8 × Rs := if s.2 = true ∨ s.1.length < n then (List.replicate n 0, (s.1, true)) else (s.1.take n, (s.1.drop n, false))
theorem tk_len (n : Nat) (s : Rs) : (tk n s).1.length = n := by
  unfold tk
  split
  · simp
  · rename_i h
    simp
    omega
def b0 (l : List UInt8) : UInt8 := l.getD 0 0
def rT (s : Rs) : ByteArray × Rs := (bT (tk (b0 (tk 1 s).1).toNat (tk 1 s).2).1, (tk (b0 (tk 1 s).1).toNat (tk 1 s).2).2)
def rN (s : Rs) : Int × Rs := (beN (tk 6 s).1, (tk 6 s).2)
def rV (s : Rs) : Vt × Rs := if ((b0 (tk 1 s).1).toNat : Int) = 1 then ((1, (rN (tk 1 s).2).1 - 1099511627776, ⟨#[]⟩), (rN (tk 1 s).2).2) else (((b0 (tk 1 s).1).toNat, 0, (rT (tk 1 s).2).1), (rT (tk 1 s).2).2)
def rP (s : Rs) : Pt × Rs := (((rT s).1, (rV (rT s).2).1), (rV (rT s).2).2)
def rPs : Nat → Rs → List Pt × Rs
  | 0, s => ([], s)
  | n + 1, s => ((rPs n s).1 ++ [(rP (rPs n s).2).1], (rP (rPs n s).2).2)
def h1 (s : Rs) : Rs := (rT s).2
def h2 (s : Rs) : Rs := (rT (h1 s)).2
def h3 (s : Rs) : Rs := (rT (h2 s)).2
def h4 (s : Rs) : Rs := (rN (h3 s)).2
def h5 (s : Rs) : Rs := (tk 1 (h4 s)).2
def hN (s : Rs) : Nat := (b0 (tk 1 (h4 s)).1).toNat
def rE (s : Rs) : Ed × Rs := (⟨(rT s).1, (rT (h1 s)).1, (rT (h2 s)).1, (rN (h3 s)).1, (rPs (hN s) (h5 s)).1⟩, (rPs (hN s) (h5 s)).2)
open Classical in
noncomputable def rParse (b : List UInt8) : Ed × Int := if (rE (b, false)).2.2 = true ∨ (rE (b, false)).2.1 ≠ [] ∨ checkE (rE (b, false)).1 ≠ 0 then (zeroE, 4) else ((rE (b, false)).1, 0)

/-- x was read of s, its bytes are l, if it was not bad -/
def Rd {α : Type} (enc : α → List UInt8) (s : Rs) (r : α × Rs) : Prop := r.2.2 = false → s.2 = false ∧ s.1 = enc r.1 ++ r.2.1
theorem tk_rd (n : Nat) (s : Rs) : Rd (fun l => l) s (tk n s) := by
  intro h
  unfold tk at h ⊢
  split at h
  · simp at h
  · rename_i h1
    rw [if_neg h1]
    obtain ⟨l, b⟩ := s
    simp at h1
    exact ⟨h1.1, by simp⟩
theorem b0_one {l : List UInt8} (h : l.length = 1) : l = [b0 l] := by
  match l, h with
  | [c], _ => rfl
theorem rT_rd (s : Rs) : Rd txt s (rT s) := by
  intro h
  unfold rT at h ⊢
  simp only at h ⊢
  obtain ⟨p1, p2⟩ := tk_rd _ _ h
  obtain ⟨q1, q2⟩ := tk_rd _ _ p1
  refine ⟨q1, ?_⟩
  rw [b0_one (tk_len 1 s)] at q2
  rw [q2, p2]
  have hsz : (bT (tk (b0 (tk 1 s).1).toNat (tk 1 s).2).1).size = (b0 (tk 1 s).1).toNat := by
    have := tk_len (b0 (tk 1 s).1).toNat (tk 1 s).2
    unfold bT
    show (List.toArray _).size = _
    simp only [List.size_toArray]
    exact this
  unfold txt
  rw [hsz, oct_of]
  simp [bT, b0]
theorem num6_beN {l : List UInt8} (h : l.length = 6) : num6 (beN l) = l := by
  match l, h with
  | [a, b, c, d, e, f], _ =>
    have ha := a.toNat_lt
    have hb := b.toNat_lt
    have hc := c.toNat_lt
    have hd := d.toNat_lt
    have he := e.toNat_lt
    have hf := f.toNat_lt
    have key : ∀ (x : UInt8) (n : Int), n % 256 = x.toNat → oct n = x := fun x n hn => by
      apply UInt8.toNat_inj.1
      have := oct_int n
      omega
    simp only [num6, beN, List.foldl_cons, List.foldl_nil]
    rw [key a _ (by omega), key b _ (by omega), key c _ (by omega), key d _ (by omega), key e _ (by omega), key f _ (by omega)]
theorem rN_rd (s : Rs) : Rd num6 s (rN s) := by
  intro h
  unfold rN at h ⊢
  simp only at h ⊢
  obtain ⟨p1, p2⟩ := tk_rd _ _ h
  exact ⟨p1, by rw [num6_beN (tk_len 6 s)]; exact p2⟩
theorem rV_rd (s : Rs) : Rd valB s (rV s) := by
  intro h
  unfold rV at h ⊢
  split at h
  · rename_i h1
    rw [if_pos h1]
    simp only at h ⊢
    obtain ⟨p1, p2⟩ := rN_rd _ h
    obtain ⟨q1, q2⟩ := tk_rd _ _ p1
    refine ⟨q1, ?_⟩
    rw [b0_one (tk_len 1 s)] at q2
    rw [q2, p2]
    have e : b0 (tk 1 s).1 = oct 1 := by rw [← oct_of (b0 (tk 1 s).1), h1]
    have e2 : (rN (tk 1 s).2).1 - 1099511627776 + 1099511627776 = (rN (tk 1 s).2).1 := by omega
    simp [valB, e, e2]
  · rename_i h1
    rw [if_neg h1]
    simp only at h ⊢
    obtain ⟨p1, p2⟩ := rT_rd _ h
    obtain ⟨q1, q2⟩ := tk_rd _ _ p1
    refine ⟨q1, ?_⟩
    rw [b0_one (tk_len 1 s)] at q2
    rw [q2, p2]
    unfold valB
    simp only
    rw [if_neg h1, oct_of]
    rfl
theorem rP_rd (s : Rs) : Rd propB s (rP s) := by
  intro h
  unfold rP at h ⊢
  simp only at h ⊢
  obtain ⟨p1, p2⟩ := rV_rd _ h
  obtain ⟨q1, q2⟩ := rT_rd _ p1
  exact ⟨q1, by rw [q2, p2]; simp [propB]⟩
theorem rPs_rd (s : Rs) : ∀ n, Rd propsB s (rPs n s)
  | 0 => fun h => ⟨h, by simp [rPs, propsB]⟩
  | n + 1 => by
    intro h
    unfold rPs at h ⊢
    simp only at h ⊢
    obtain ⟨p1, p2⟩ := rP_rd _ h
    obtain ⟨q1, q2⟩ := rPs_rd s n p1
    exact ⟨q1, by rw [q2, p2, propsB_snoc]; simp⟩
theorem rPs_len (s : Rs) : ∀ n, (rPs n s).1.length = n
  | 0 => rfl
  | n + 1 => by unfold rPs; simp [rPs_len s n]
theorem rE_rd (s : Rs) : Rd putE s (rE s) := by
  intro h
  unfold rE at h ⊢
  simp only at h ⊢
  obtain ⟨a1, a2⟩ := rPs_rd _ _ h
  obtain ⟨c1, c2⟩ := tk_rd _ _ a1
  obtain ⟨d1, d2⟩ := rN_rd _ c1
  obtain ⟨e1, e2⟩ := rT_rd _ d1
  obtain ⟨f1, f2⟩ := rT_rd _ e1
  obtain ⟨g1, g2⟩ := rT_rd _ f1
  refine ⟨g1, ?_⟩
  have hb := b0_one (tk_len 1 (h4 s))
  have hl : oct ((rPs (hN s) (h5 s)).1.length : Int) = b0 (tk 1 (h4 s)).1 := by rw [rPs_len]; exact oct_of _
  have g2' : s.1 = txt (rT s).1 ++ (h1 s).1 := g2
  have f2' : (h1 s).1 = txt (rT (h1 s)).1 ++ (h2 s).1 := f2
  have e2' : (h2 s).1 = txt (rT (h2 s)).1 ++ (h3 s).1 := e2
  have d2' : (h3 s).1 = num6 (rN (h3 s)).1 ++ (h4 s).1 := d2
  have c2' : (h4 s).1 = (tk 1 (h4 s)).1 ++ (h5 s).1 := c2
  rw [hb] at c2'
  rw [g2', f2', e2', d2', c2', a2]
  unfold putE headB
  simp only
  rw [hl]
  simp only [List.append_assoc]

/-! ### what is put is read -/
theorem tk_app (l r : List UInt8) (n : Nat) (h : l.length = n) : tk n (l ++ r, false) = (l, (r, false)) := by
  unfold tk
  rw [if_neg (by simp; omega), ← h]
  simp
theorem rT_put (s : ByteArray) (r : List UInt8) (h : s.size < 256) : rT (txt s ++ r, false) = (s, (r, false)) := by
  have e1 : tk 1 (txt s ++ r, false) = ([oct s.size], (s.data.toList ++ r, false)) := by
    have := tk_app [oct s.size] (s.data.toList ++ r) 1 rfl
    simpa [txt] using this
  have e2 : (b0 [oct s.size]).toNat = s.size := by
    have := oct_int (s.size : Int)
    show (oct s.size).toNat = _
    omega
  unfold rT
  rw [e1]
  simp only
  rw [e2, tk_app _ _ _ (data_size s)]
  simp only [bT, data_mk]
theorem rN_put (n : Int) (r : List UInt8) (h0 : 0 ≤ n) (h1 : n < 281474976710656) : rN (num6 n ++ r, false) = (n, (r, false)) := by
  unfold rN
  rw [tk_app _ _ _ (num6_len n)]
  simp only [beN_num n h0 h1]
theorem rV_put {v : Vt} (h : rightV v = true) (r : List UInt8) : rV (valB v ++ r, false) = (v, (r, false)) := by
  rcases right_cases h with ⟨n, rfl, h1, h2⟩ | ⟨t, rfl, h1⟩
  · have e : valB (1, n, ⟨#[]⟩) ++ r = [oct 1] ++ (num6 (n + 1099511627776) ++ r) := by simp [valB]
    unfold rV
    rw [e, tk_app [oct 1] _ 1 rfl]
    simp only
    rw [if_pos (by rfl), rN_put _ _ (by omega) (by omega)]
    simp only [Prod.mk.injEq, true_and, and_true]
    omega
  · have e : valB (2, 0, t) ++ r = [oct 2] ++ (txt t ++ r) := by simp [valB]
    unfold rV
    rw [e, tk_app [oct 2] _ 1 rfl]
    simp only
    rw [if_neg (by decide), rT_put _ _ (by have := isT_size h1; omega)]
    rfl
theorem rP_put {p : Pt} (h1 : freB p.1 = true) (h2 : rightV p.2 = true) (r : List UInt8) : rP (propB p ++ r, false) = (p, (r, false)) := by
  have hs := verB_size (freB_ver h1)
  unfold rP propB
  rw [List.append_assoc, rT_put _ _ (by omega)]
  simp only
  rw [rV_put h2]
theorem rPs_put (l : List Pt) (r : List UInt8) (h : ∀ p ∈ l, freB p.1 = true ∧ rightV p.2 = true) : ∀ k, k ≤ l.length → rPs k (propsB l ++ r, false) = (l.take k, (propsB (l.drop k) ++ r, false))
  | 0, _ => by simp [rPs]
  | k + 1, hk => by
    have ih := rPs_put l r h k (by omega)
    have e : l.drop k = l[k] :: l.drop (k + 1) := List.drop_eq_getElem_cons (by omega)
    have e2 : propsB (l.drop k) = propB l[k] ++ propsB (l.drop (k + 1)) := by rw [e]; exact List.flatMap_cons
    have hp := h l[k] (List.getElem_mem _)
    unfold rPs
    rw [ih]
    simp only
    rw [e2, List.append_assoc, rP_put hp.1 hp.2, List.take_succ_eq_append_getElem (by omega)]
theorem rE_put {e : Ed} (h : checkE e = 0) : rE (putE e, false) = (e, ([], false)) := by
  obtain ⟨⟨k1, k2, k3, k4⟩, k5⟩ := check_ok.1 h
  have s1 := verB_size k1
  have s2 := verB_size k2
  have s3 := verB_size (freB_ver k3)
  have s4 := k4.1
  unfold timeB at k5
  rw [decide_eq_true_eq] at k5
  have e0 : putE e = txt e.src ++ (txt e.dst ++ (txt e.lab ++ (num6 e.time ++ ([oct e.props.length] ++ (propsB e.props ++ []))))) := by simp [putE, headB]
  have a1 := rT_put e.src (txt e.dst ++ (txt e.lab ++ (num6 e.time ++ ([oct e.props.length] ++ (propsB e.props ++ []))))) (by omega)
  have a2 := rT_put e.dst (txt e.lab ++ (num6 e.time ++ ([oct e.props.length] ++ (propsB e.props ++ [])))) (by omega)
  have a3 := rT_put e.lab (num6 e.time ++ ([oct e.props.length] ++ (propsB e.props ++ []))) (by omega)
  have a4 := rN_put e.time ([oct e.props.length] ++ (propsB e.props ++ [])) k5.1 (by omega)
  have a5 := tk_app [oct e.props.length] (propsB e.props ++ []) 1 rfl
  have b1 : h1 (putE e, false) = (txt e.dst ++ (txt e.lab ++ (num6 e.time ++ ([oct e.props.length] ++ (propsB e.props ++ [])))), false) := by unfold h1; rw [e0, a1]
  have b2 : h2 (putE e, false) = (txt e.lab ++ (num6 e.time ++ ([oct e.props.length] ++ (propsB e.props ++ []))), false) := by unfold h2; rw [b1, a2]
  have b3 : h3 (putE e, false) = (num6 e.time ++ ([oct e.props.length] ++ (propsB e.props ++ [])), false) := by unfold h3; rw [b2, a3]
  have b4 : h4 (putE e, false) = ([oct e.props.length] ++ (propsB e.props ++ []), false) := by unfold h4; rw [b3, a4]
  have b5 : h5 (putE e, false) = (propsB e.props ++ [], false) := by unfold h5; rw [b4, a5]
  have bN : hN (putE e, false) = e.props.length := by
    unfold hN
    rw [b4, a5]
    have := oct_int (e.props.length : Int)
    show (oct e.props.length).toNat = _
    omega
  unfold rE
  rw [bN, b5, rPs_put e.props [] (areP_mem k4) e.props.length (Nat.le_refl _), b3, a4, b2, a3, b1, a2, e0, a1]
  simp [propsB]
theorem rParse_eq (b : List UInt8) : rParse b = parseE b := by
  unfold rParse
  rcases parse_cases b with ⟨c1, c2, c3⟩ | ⟨c1, c2⟩
  · have := rE_put c1
    rw [c2] at this
    rw [this, c3, if_neg]
    simp [c1]
  · rw [c2]
    by_cases h : (rE (b, false)).2.2 = true ∨ (rE (b, false)).2.1 ≠ [] ∨ checkE (rE (b, false)).1 ≠ 0
    · rw [if_pos h]
    · exfalso
      rw [not_or, not_or] at h
      obtain ⟨x1, x2, x3⟩ := h
      have hb := (rE_rd (b, false) (by simpa using x1)).2
      have hr : (rE (b, false)).2.1 = [] := Classical.not_not.1 x2
      rw [hr, List.append_nil] at hb
      exact c1 _ (Classical.not_not.1 x3) hb.symm
end Go.Proofs.Ytpoefcpgcojppaa
