/- Texts R, S, U, OA, ZS, ZC, PD, one behind the other. -/
import Derived.Test.YtnccgaanfjaimaaDoorJ0
import Derived.Test.YtnccgaanfjaimaaDoorJ1
import Derived.Test.YtnccgaanfjaimaaDoorJ2
import Derived.LaidMore
import Derived.OpenShut
import Derived.SevenTiedAt
import Derived.MakeChecks
import Derived.Lib.LaidTab
import Derived.Deep.Slices
import Derived.Deep.Strs
import Derived.SliceStrings
import Derived.SizedLaws
import Derived.Carry
import Derived.Lib.SmallJoins
import Derived.Lib.TrailingZeros
import Derived.Laws.AppendOwn
import Derived.Shelf.Spec.TrailingZeros
import Derived.Test.YtnccgaanfjaimaaDoorTie
import Derived.Test.YtnccgaanfjaimaaDoorCards
import Derived.Stop.Joined
import Derived.Stop.LaidErr
set_option linter.unusedSimpArgs false
set_option linter.unusedVariables false
namespace Go.Proofs.YtnccgaanfjaimaaDoor
open Go.ChangeShapes Go.WideShapes Go.ChangeAt Go.RowKit
set_option linter.unusedVariables false
set_option linter.unusedSimpArgs false

attribute [local go_sem] Oper.semAt_some

/-- a kid, where its spots begin, the room from there on -/
structure Kd where
 x : X
 o : Nat
 c : Nat
def kidsAt : List X → Nat → Nat → List Kd
 | [], _, _ => []
 | x :: xs, o, c => ⟨x, o, c⟩ :: kidsAt xs (o + x.sz) (c - x.sz)
theorem kidsAt_snoc (x : X) : ∀ (ks : List X) (o c : Nat), kidsAt (ks ++ [x]) o c = kidsAt ks o c ++ [⟨x, o + szL ks, c - szL ks⟩]
 | [], o, c => by simp [kidsAt, szL_nil]
 | y :: ys, o, c => by
  rw [List.cons_append, kidsAt, kidsAt, kidsAt_snoc x ys, szL_cons, List.cons_append]
  simp only [Nat.add_assoc, Nat.sub_sub]
theorem kidsAt_app (ys : List X) : ∀ (ks : List X) (o c : Nat), kidsAt (ks ++ ys) o c = kidsAt ks o c ++ kidsAt ys (o + szL ks) (c - szL ks)
 | [], o, c => by simp [kidsAt, szL_nil]
 | y :: ks, o, c => by
  rw [List.cons_append, kidsAt, kidsAt, kidsAt_app ys ks, szL_cons, List.cons_append]
  simp only [Nat.add_assoc, Nat.sub_sub]
def Kd.v (g : Nat) (k : Kd) : Value := .slice (some ⟨g, k.o * 5, none⟩) k.x.sz k.c
def encK (g : Nat) (k : Kd) : Array Value := #[k.v g]

theorem flatS_inj : ∀ {L L' : List Sp}, L.length = L'.length → flatS L = flatS L' → L = L'
 | [], [], _, _ => rfl
 | x :: l, y :: l', hl, h => by
  have e : ∀ (z : Sp) (l : List Sp), flatS (z :: l) = .int .i64 z.kind :: .string z.lab :: .int .i64 z.size :: .bool z.emp :: .bool z.ends :: flatS l := fun z l => by simp [flatS, Sp.cells]
  rw [e, e] at h
  simp only [List.cons.injEq, Value.int.injEq, Value.string.injEq, Value.bool.injEq, true_and] at h
  obtain ⟨h1, h2, h3, h4, h5, h6⟩ := h
  obtain ⟨a1, a2, a3, a4, a5⟩ := x
  obtain ⟨b1, b2, b3, b4, b5⟩ := y
  simp only at h1 h2 h3 h4 h5
  have h3' : a3 = b3 := by omega
  subst h1 h2 h3' h4 h5
  rw [flatS_inj (by simpa using hl) h6]
theorem SpM.one {W : World} {g : Nat} {L L' : List Sp} (h : SpM W g L) (h' : SpM W g L') (hl : L.length = L'.length) : L = L' := by
 obtain ⟨cur, h1, h2⟩ := h
 obtain ⟨cur', h3, h4⟩ := h'
 rw [h1] at h3
 injection h3 with h3
 injection h3 with h3 _ _
 subst h3
 refine flatS_inj hl (List.ext_getElem? fun j => ?_)
 by_cases hj : j < (flatS L).length
 ·have hj' : j < (flatS L').length := by rw [flatS_len] at hj ⊢; omega
  have a := h2 j _ (List.getElem?_eq_getElem hj)
  have b := h4 j _ (List.getElem?_eq_getElem hj')
  rw [List.getElem?_eq_getElem hj, List.getElem?_eq_getElem hj', ← a, ← b]
 ·rw [List.getElem?_eq_none (by omega), List.getElem?_eq_none (by rw [flatS_len] at hj ⊢; omega)]

/-- the sizes of the n spots stay -/
structure KpG (g n : Nat) (A B : World) : Prop where
 size : A.heap.size ≤ B.heap.size
 sp : ∀ L, L.length = n → SpM A g L → ∃ L', SpM B g L' ∧ L'.map Sp.size = L.map Sp.size
theorem KpG.trans {g n : Nat} {A B C : World} (h : KpG g n A B) (k : KpG g n B C) : KpG g n A C := ⟨Nat.le_trans h.size k.size, fun L hn hL => by
 obtain ⟨L1, h1, e1⟩ := h.sp L hn hL
 obtain ⟨L2, h2, e2⟩ := k.sp L1 (by have := congrArg List.length e1; simp at this; omega) h1
 exact ⟨L2, h2, e2.trans e1⟩⟩
theorem KpG.refl (g n : Nat) (A : World) : KpG g n A A := ⟨Nat.le_refl _, fun L _ hL => ⟨L, hL, rfl⟩⟩
theorem KpG.of_below {g n : Nat} {A B : World} (h : Below A.heap.size A B) : KpG g n A B := ⟨h.size, fun L _ hL => ⟨L, hL.bel h, rfl⟩⟩
theorem KpG.putObj {g n : Nat} (W : World) (l : Nat) (o o' : Obj) (hl : W.heap[l]? = some o) (ho : o.isCells = false) : KpG g n W (W.putObj l o') := by
 refine ⟨by simp, fun L _ hL => ⟨L, hL.block (World.putObj_heap_other fun e => ?_), rfl⟩⟩
 subst e
 obtain ⟨cur, h, _⟩ := hL
 rw [hl] at h
 cases h
 cases ho
theorem KpG.set {g n : Nat} {W : World} {a : Addr} (v : Value) (h : a.block ≠ g) : KpG g n W (W.setCell a v) := ⟨by simp [World.setCell], fun L _ hL => ⟨L, hL.block (Below.heap_setCell _ _ _ _ (fun e => h e.symm)), rfl⟩⟩
theorem KpG.of_sp {g : Nat} {A B : World} {L L' : List Sp} (hs : A.heap.size ≤ B.heap.size) (h : SpM A g L) (h' : SpM B g L') (he : L'.map Sp.size = L.map Sp.size) {n : Nat} (hn : L.length = n) : KpG g n A B := ⟨hs, fun M hM hM' => by
 have := h.one hM' (by omega)
 subst this
 exact ⟨L', h', he⟩⟩

theorem kidsOf_any (A : Option Addr) (n c : Nat) (w : World) : Calls Tryd.prog 80 #[.slice A n c] w fun e w' => e = .returned (.func (.func 98) #[] #[.pointer (some ⟨w.heap.size, 0, none⟩)]) ∧ w' = w.alloc (.cells #[.slice A n c] 90) := by
 go_enter Tryd.func80, Tryd.ntmps80
 go_wp2_with fail
 go_ret
 exact ⟨rfl, rfl⟩

theorem sizes_at {L L' : List Sp} (h : L'.map Sp.size = L.map Sp.size) {i : Nat} (hi : i < L.length) : ∃ hi' : i < L'.length, L'[i].size = L[i].size := by
 have hl : L'.length = L.length := by have := congrArg List.length h; simpa using this
 refine ⟨by omega, ?_⟩
 have := congrArg (fun l => l[i]?) h
 simpa [hi, show i < L'.length by omega] using this

set_option maxRecDepth 100000 in
set_option maxHeartbeats 8000000 in
theorem kids_seq {w0 : World} (n : Nat) (hn : 2 ≤ n) {g Bk c : Nat} {P Q : List Sp} {s0 : Sp} {ks : List X} {fl : List Bool} (hB : Boxed w0 Bk 90 (.slice (some ⟨g, P.length * 5, none⟩) (1 + szL ks) c)) (hc : 1 + szL ks ≤ c) (hks : ks ≠ [])
  (hfl : fl.length = szL ks) (hsp : SpM w0 g (P ++ s0 :: (SLs ks fl ++ Q))) (hsz : P.length + szL ks ≤ 100000) :
  SeqX Fence.wide n Tryd.prog 98 #[.pointer (some ⟨Bk, 0, none⟩)] (encK g) (KpG g (P ++ s0 :: (SLs ks fl ++ Q)).length) (kidsAt ks (P.length + 1) (c - 1)) w0 := by
 intro l J Jx W hW hJ hJx hY h0
 have HY := Lib.hid hY
 have HJ := Lib.hid hJ
 have hbk : Boxed W Bk 90 _ := Boxed.bel hB hW
 have b0 := hbk.cell
 have hl := hbk.lt
 have HSP := Lib.hid (hsp.bel hW)
 have HJ0 := Lib.hid h0
 have hszs : ∀ (pre : List X) (x : X) (rest : List X), ks = pre ++ x :: rest → ∃ h : P.length + 1 + szL pre < (P ++ s0 :: (SLs ks fl ++ Q)).length, (P ++ s0 :: (SLs ks fl ++ Q))[P.length + 1 + szL pre].size = x.sz := by
  rintro pre x rest rfl
  have e1 : fl = fl.take (szL pre) ++ fl.drop (szL pre) := (List.take_append_drop _ _).symm
  rw [szL_app, szL_cons] at hfl
  have ht : (fl.take (szL pre)).length = szL pre := by rw [List.length_take]; omega
  have hd : (fl.drop (szL pre)).length = x.sz + szL rest := by rw [List.length_drop]; omega
  have hp := x.sz_pos
  have e2 : SLs (pre ++ x :: rest) fl = SLs pre (fl.take (szL pre)) ++ (SL x ((fl.drop (szL pre)).take x.sz) ++ SLs rest ((fl.drop (szL pre)).drop x.sz)) := by
   conv => lhs; rw [e1]
   rw [SLs_app _ _ _ _ ht, SLs_cons _ _ _ (by omega)]
  obtain ⟨e, kf, hk⟩ : ∃ e kf, (fl.drop (szL pre)).take x.sz = e :: kf := List.exists_cons_of_length_pos (by rw [List.length_take]; omega)
  have hl1 : (SLs pre (fl.take (szL pre))).length = szL pre := SLs_len ht
  have e3 : P ++ s0 :: (SLs (pre ++ x :: rest) fl ++ Q) = (P ++ s0 :: SLs pre (fl.take (szL pre))) ++ spX e x :: (SLs x.kids kf ++ SLs rest ((fl.drop (szL pre)).drop x.sz) ++ Q) := by
   rw [e2, hk, SL_cons]; simp
  have hl2 : (P ++ s0 :: SLs pre (fl.take (szL pre))).length = P.length + 1 + szL pre := by simp [hl1]; omega
  have e4 : ∀ (M : List Sp) (hM : M = (P ++ s0 :: SLs pre (fl.take (szL pre))) ++ spX e x :: (SLs x.kids kf ++ SLs rest ((fl.drop (szL pre)).drop x.sz) ++ Q)), ∃ h : P.length + 1 + szL pre < M.length, M[P.length + 1 + szL pre].size = x.sz := by
   rintro M rfl
   refine ⟨by rw [List.length_append, hl2]; simp, ?_⟩
   rw [List.getElem_append_right (by omega)]
   simp [hl2, spX]
  exact e4 _ e3
 have HSZ := Lib.hid hszs
 clear hY hJ h0 hJx hB hsp hW hbk hszs
 refine callsIn_of_wp Tryd.func98 rfl trivial ?_ rfl
 simp only [Tryd.ntmps98, List.size_toArray, List.length_cons, List.length_nil, Nat.reduceAdd, Nat.reduceSub, Array.replicate_succ, Array.replicate_zero, List.push_toArray, List.append_toArray, List.nil_append, List.cons_append]
 refine wpIn_wide.2 ?_
 have i1 : (1 : Int) ≤ ((1 + szL ks : Nat) : Int) := by omega
 have hc1 : ¬ c = 1 := by
  obtain ⟨x, xs, rfl⟩ := List.exists_cons_of_ne_nil hks
  have := x.sz_pos
  rw [szL_cons] at hc
  omega
 clear hks
 go_wp2_with fail
 clear i1
 have hoff := Lib.hid (show (P.length * 5 + 5) = (P.length + 1 + szL []) * 5 by rw [szL_nil]; omega)
 go_loopg [3] (ks.length) (fun k v wr => ∃ (pre rest : List X) (A' : Option Addr) (c' : Nat), v = .slice A' (szL rest) c' ∧ pre ++ rest = ks ∧ k = rest.length ∧ szL rest ≤ c' ∧ c' = c - 1 - szL pre ∧ (rest ≠ [] → A' = some ⟨g, (P.length + 1 + szL pre) * 5, none⟩) ∧ (∃ L', SpM wr g L' ∧ L'.map Sp.size = (P ++ s0 :: (SLs ks fl ++ Q)).map Sp.size) ∧ J (kidsAt pre (P.length + 1) (c - 1)) wr ∧ W.heap.size ≤ wr.heap.size)
 case atStart => exact ⟨[], ks, _, _, rfl, rfl, rfl, by omega, by rw [szL_nil]; omega, fun _ => by rw [hoff.out], ⟨_, HSP.out, rfl⟩, HJ0.out, Nat.le_refl _⟩
 case round =>
  obtain ⟨pre, rest, A', c', rfl, hpr, rfl, hrc, hcc, hA', ⟨L', hL', hLs⟩, hj, hwz⟩ := hrel
  cases rest with
  | nil =>
   obtain rfl : pre = ks := by simpa using hpr
   have HJE := Lib.hid hj
   rw [szL_nil]
   clear hL' hLs hj hA' hrc hcc
   go_wp2_with fail
   go_end0
   exact ⟨⟨_, rfl⟩, .inl HJE.out⟩
  | cons x rest =>
   obtain rfl := hA' (by simp)
   obtain ⟨hi0, hs0⟩ := HSZ.out pre x rest hpr.symm
   obtain ⟨hi1, hs1⟩ := sizes_at hLs hi0
   rw [hs0] at hs1
   obtain ⟨-, -, z2, -, -⟩ := hL'.at5 hi1
   rw [hs1] at z2
   have hp := x.sz_pos
   rw [szL_cons] at hrc ⊢
   have j0 : (0 : Int) < ((x.sz + szL rest : Nat) : Int) := by omega
   have j1 : (0 : Int) ≤ (x.sz : Int) := by omega
   have j2 : (x.sz : Int) ≤ (c' : Int) := by omega
   have j3 : (x.sz : Int) ≤ ((x.sz + szL rest : Nat) : Int) := by omega
   have j4 : ¬ c' = 0 := by omega
   have hkd : kidsAt (pre ++ [x]) (P.length + 1) (c - 1) = kidsAt pre (P.length + 1) (c - 1) ++ [⟨x, P.length + 1 + szL pre, c'⟩] := by rw [kidsAt_snoc, hcc]
   have hpfx : kidsAt pre (P.length + 1) (c - 1) ++ [⟨x, P.length + 1 + szL pre, c'⟩] <+: kidsAt ks (P.length + 1) (c - 1) := by
    rw [← hkd, show ks = (pre ++ [x]) ++ rest by rw [← hpr]; simp]
    exact ⟨_, (kidsAt_app rest (pre ++ [x]) _ _).symm⟩
   obtain ⟨fn, tmps, assign, body, hy, hR⟩ := HY.out _ ⟨x, P.length + 1 + szL pre, c'⟩ wr hpfx hwz hj
   simp only [encK, Kd.v] at hy
   have HL := Lib.hid (And.intro hL' hLs)
   have HR := Lib.hid hR
   have HX := Lib.hid (And.intro hpr (And.intro hrc (And.intro (show c' = c - 1 - szL pre from hcc) (And.intro hkd (And.intro hwz hpfx)))))
   clear hL' hLs hj hA' hR hpr hrc hkd hpfx hs0 hs1
   generalize hoo : (P.length + 1 + szL pre) * 5 = oo at *
   have HO := Lib.hid hoo
   clear hoo hcc
   go_upto_region 3 with (fail)
   refine wpIn_wide.1 (?_ : Code.wpIn Fence.wide n Tryd.prog _ _ _ _)
   gi_wp2
   refine ⟨fun h => (by cases h), ?_⟩
   refine HR.out.mono ?_
   rintro e W4 ⟨hkf, (⟨rfl, hJ4, hk4⟩ | ⟨rfl, hJx4⟩)⟩
   ·obtain ⟨L4, hL4, hs4⟩ := hk4.sp _ (by have := congrArg List.length HL.out.2; simpa using this) HL.out.1
    have hs5 := hs4.trans HL.out.2
    obtain ⟨hi2, hs2⟩ := sizes_at hs5 hi0
    obtain ⟨-, -, z2', -, -⟩ := hL4.at5 hi2
    obtain ⟨hi0', hs0'⟩ := HSZ.out pre x rest HX.out.1.symm
    rw [hs2, hs0', HO.out] at z2'
    have X4 := Lib.hid (And.intro hkf (And.intro hJ4 (And.intro hL4 hs5)))
    clear hkf hJ4 hk4 hL4 hs4 hs5 z2 hy
    gi_wp2
    by_cases hcs : c' = x.sz
    ·go_wp2_with fail
     go_roundg rest.length
     case measure => simp
     case rel =>
      obtain ⟨hpr, hrc, hcc, hkd, hwz, hpfx⟩ := HX.out
      obtain ⟨hkf, hJ4, hL4, hs5⟩ := X4.out
      have hr0 : rest = [] := by
       cases rest with
       | nil => rfl
       | cons y ys => rw [szL_cons] at hrc; have := y.sz_pos; omega
      refine ⟨pre ++ [x], rest, some ⟨g, oo, none⟩, 0, rfl, by rw [← hpr]; simp, rfl, ?_, ?_, fun h => absurd hr0 h, ⟨_, hL4, hs5⟩, by rw [hkd]; exact hJ4, Nat.le_trans hwz hkf.size⟩
      ·rw [hr0, szL_nil]; exact Nat.zero_le _
      ·rw [szL_app, szL_cons, szL_nil]; omega
    ·go_wp2_with fail
     go_roundg rest.length
     case measure => simp
     case rel =>
      obtain ⟨hpr, hrc, hcc, hkd, hwz, hpfx⟩ := HX.out
      obtain ⟨hkf, hJ4, hL4, hs5⟩ := X4.out
      refine ⟨pre ++ [x], rest, _, _, rfl, by rw [← hpr]; simp, rfl, by omega, ?_, fun h => ?_, ⟨_, hL4, hs5⟩, by rw [hkd]; exact hJ4, Nat.le_trans hwz hkf.size⟩
      ·rw [szL_app, szL_cons, szL_nil]; omega
      ·rw [szL_app, szL_cons, szL_nil, ← HO.out]
       congr 2
       omega
   ·have X4 := Lib.hid hJx4
    clear hkf hJx4
    gi_wp2
    go_wp2_with fail
    refine bodyPost_ret (results_none rfl _ _ _) rfl ?_
    exact ⟨⟨_, rfl⟩, .inr ⟨_, HX.out.2.2.2.2.2, X4.out⟩⟩
end Go.Proofs.YtnccgaanfjaimaaDoor

namespace Go.Proofs.YtnccgaanfjaimaaDoor
open Go.ChangeShapes Go.WideShapes Go.ChangeAt Go.RowKit
set_option linter.unusedVariables false
set_option linter.unusedSimpArgs false

attribute [local go_sem] Oper.semAt_some

def StepR (g : Nat) (P Q : List Sp) (x : X) (fl' : List Bool) (w : World) (e : Ending) (w' : World) : Prop := e = .returned (.bool (hd fl')) ∧ SpM w' g (P ++ (SL x fl' ++ Q)) ∧ Ch g w w'
/-- a step over a label, as the walk has it -/
def StepC (x : X) : Prop := ∀ (g : Nat) (P Q : List Sp) (fl : List Bool) (c : Nat) (s : ByteArray) (b : Bool) (w : World), fl.length = x.sz → SpM w g (P ++ (SL x fl ++ Q)) → x.sz ≤ c → P.length + x.sz ≤ 100000 →
 Calls Tryd.prog 63 #[.slice (some ⟨g, P.length * 5, none⟩) x.sz c, .string s, .bool b] w (StepR g P Q x (stepF s x fl b) w)

theorem kidsAt_pre : ∀ {ks : List X} {o c : Nat} {pre : List Kd} {k : Kd}, pre ++ [k] <+: kidsAt ks o c → ∃ rest, ks = pre.map Kd.x ++ k.x :: rest ∧ k.o = o + szL (pre.map Kd.x) ∧ k.c = c - szL (pre.map Kd.x)
 | [], o, c, pre, k, h => by
  have := h.length_le
  simp [kidsAt] at this
 | x :: xs, o, c, [], k, h => by
  obtain ⟨t, ht⟩ := h
  rw [kidsAt] at ht
  injection ht with h1 h2
  subst h1
  exact ⟨xs, rfl, by simp [szL_nil], by simp [szL_nil]⟩
 | x :: xs, o, c, p :: pre, k, h => by
  obtain ⟨t, ht⟩ := h
  rw [kidsAt] at ht
  injection ht with h1 h2
  subst h1
  obtain ⟨rest, e1, e2, e3⟩ := kidsAt_pre (ks := xs) (pre := pre) (k := k) ⟨t, h2⟩
  refine ⟨rest, by rw [e1]; rfl, ?_, ?_⟩
  ·rw [e2, List.map_cons, szL_cons, Nat.add_assoc]
  ·rw [e3, List.map_cons, szL_cons, Nat.sub_sub]
theorem Ch.kf {g B : Nat} {w w' : World} {L : List Sp} (h : Ch g w w') (hs : SpM w g L) : KeepsFrom B w w' := ⟨h.size, fun k o _ hk hc => (h.block k (Array.getElem?_eq_some_iff.1 hk).1 (fun e => by
 subst e
 obtain ⟨cur, h1, _⟩ := hs
 rw [h1] at hk
 cases hk
 cases hc)).trans hk⟩
theorem ownQ_ch {β : Type} {g B : Nat} {w : World} (hB : w.heap.size ≤ B) : OwnQ B (fun (_ : β) W => Ch g w W) := fun _ X Y h hr => ⟨hr.os.trans h.os, hr.tape.trans h.tape, hr.output.trans h.output, Nat.le_trans h.size hr.size, fun k hk hn => (hr.block k (Nat.lt_of_lt_of_le hk h.size) (.inl (by omega))).trans (h.block k hk hn)⟩
theorem Ch.putObj {g : Nat} {w W : World} (h : Ch g w W) {D : Nat} {o : Obj} (hD : w.heap.size ≤ D) : Ch g w (W.putObj D o) := ⟨h.os, h.tape, h.output, by simpa using h.size, fun k hk hn => (World.putObj_heap_other (by omega)).trans (h.block k hk hn)⟩
theorem Ch.set_new {g : Nat} {w W : World} (h : Ch g w W) {p : Addr} {v : Value} (hp : w.heap.size ≤ p.block) : Ch g w (W.setCell p v) := ⟨h.os, h.tape, h.output, by simpa [World.setCell] using h.size, fun k hk hn => (Below.heap_setCell _ _ _ _ (by omega)).trans (h.block k hk hn)⟩
theorem SpM.ne {W : World} {g B : Nat} {L : List Sp} {t : TypeId} {v : Value} (h : SpM W g L) (hb : Boxed W B t v) (ht : t ≠ 94) : B ≠ g := by
 rintro rfl
 obtain ⟨cur, h1, _⟩ := h
 rw [show W.heap[B]? = _ from hb] at h1
 injection h1 with h1
 injection h1 with _ h1 _
 exact ht h1
theorem SL_size {x : X} {f f' : List Bool} (h : f.length = x.sz) (h' : f'.length = x.sz) : (SL x f).map Sp.size = (SL x f').map Sp.size := by
 unfold SL
 refine List.ext_getElem ?_ fun i h1 h2 => ?_
 ·simp [h, h']
 ·simp [spX]

theorem rowS_take (s : ByteArray) : ∀ (ks : List X) (kf : List Bool) (b e : Bool), rowS s ks kf b e = rowS s ks (kf.take (szL ks)) b e
 | [], kf, b, e => by rw [rowS_nil, rowS_nil]
 | x :: xs, kf, b, e => by
  rw [rowS_cons, rowS_cons, szL_cons, List.take_take, List.drop_take, Nat.min_eq_left (by omega), show x.sz + szL xs - x.sz = szL xs by omega, ← rowS_take s xs]
theorem altS_take (s : ByteArray) : ∀ (ks : List X) (kf : List Bool) (b e : Bool), altS s ks kf b e = altS s ks (kf.take (szL ks)) b e
 | [], kf, b, e => by rw [altS_nil, altS_nil]
 | x :: xs, kf, b, e => by
  rw [altS_cons, altS_cons, szL_cons, List.take_take, List.drop_take, Nat.min_eq_left (by omega), show x.sz + szL xs - x.sz = szL xs by omega, ← altS_take s xs]
theorem kidsAt_x : ∀ (ks : List X) (o c : Nat), (kidsAt ks o c).map Kd.x = ks
 | [], _, _ => rfl
 | x :: xs, o, c => by rw [kidsAt, List.map_cons, kidsAt_x xs]

set_option maxRecDepth 100000 in
set_option maxHeartbeats 8000000 in
theorem row58_any {ks : List X} (hs : ∀ k ∈ ks, StepC k) (hg : goodL ks) (hks : ks ≠ []) {g Bk c : Nat} {P Q : List Sp} {s0 : Sp} {kf : List Bool} {w : World} (s : ByteArray) (b : Bool)
  (hB : Boxed w Bk 90 (.slice (some ⟨g, P.length * 5, none⟩) (1 + szL ks) c)) (hc : 1 + szL ks ≤ c) (hfl : kf.length = szL ks) (hsp : SpM w g (P ++ s0 :: (SLs ks kf ++ Q))) (hsz : P.length + 1 + szL ks ≤ 100000) :
  Calls Tryd.prog 79 #[.func (.func 98) #[] #[.pointer (some ⟨Bk, 0, none⟩)], .string s, .bool b] w fun e w' => e = .returned (.bool (rowS s ks kf b false).2.1) ∧ SpM w' g (P ++ s0 :: (SLs ks (rowS s ks kf b false).2.2 ++ Q)) ∧ Ch g w w' := by
 have H0 := Lib.hid (And.intro hB hsp)
 have HS := Lib.hid (And.intro hs hg)
 clear hB hsp hs hg
 refine (callsIn_wide (n := 12)).1 ?_
 refine callsIn_of_wp_marks Tryd.func79 rfl trivial ?_ rfl
 simp only [Tryd.ntmps79, List.size_toArray, List.length_cons, List.length_nil, Nat.reduceAdd, Nat.reduceSub, Array.replicate_succ, Array.replicate_zero, List.push_toArray, List.append_toArray, List.nil_append, List.cons_append]
 refine wpIn_wide.2 ?_
 go_wp2_with fail
 have hb0 : Below w.heap.size w (((w.alloc (.cells #[.string s] 9)).alloc (.cells #[.bool b] 4)).alloc (.cells #[.bool false] 4)) := (((Below.refl _ w).alloc (Nat.le_refl _) _).alloc (by simp) _).alloc (by simp; try omega) _
 generalize hQ0 : ((w.alloc (.cells #[.string s] 9)).alloc (.cells #[.bool b] 4)).alloc (.cells #[.bool false] 4) = W0 at *
 have hz0 : W0.heap.size = w.heap.size + 3 := by rw [← hQ0]; simp
 have x4 : Boxed W0 w.heap.size 9 (.string s) := by
  unfold Boxed
  rw [← hQ0, Below.heap_alloc _ _ _ (by simp; try omega), Below.heap_alloc _ _ _ (by simp)]; exact World.alloc_heap_new w _
 have x5 : Boxed W0 (w.heap.size + 1) 4 (.bool b) := by
  unfold Boxed
  rw [← hQ0, Below.heap_alloc _ _ _ (by simp)]
  have := World.alloc_heap_new (w.alloc (.cells #[.string s] 9)) (.cells #[.bool b] 4)
  rwa [World.size_alloc] at this
 have x7 : Boxed W0 (w.heap.size + 1 + 1) 4 (.bool false) := by
  unfold Boxed
  rw [← hQ0]
  have := World.alloc_heap_new ((w.alloc (.cells #[.string s] 9)).alloc (.cells #[.bool b] 4)) (.cells #[.bool false] 4)
  rwa [World.size_alloc, World.size_alloc] at this
 have hsp0 := H0.out.2.bel hb0
 have hseq := kids_seq 11 (by decide) (Boxed.bel H0.out.1 hb0) hc hks hfl hsp0 (by omega)
 have HSEQ := Lib.hid hseq
 have hgl := H0.out.2.lt
 have HI0 := Lib.hid (And.intro x4 (And.intro x5 (And.intro x7 (And.intro hsp0 hb0))))
 clear hb0 hseq x4 x5 x7 hsp0 hQ0
 refine wpIn_wide.1 (?_ : Code.wpIn Fence.wide 12 Tryd.prog _ _ _ _)
 refine wpIn_rangeFunc_X rfl (by omega) (gf := 98) (lb := #[.pointer (some ⟨Bk, 0, none⟩)]) rfl trivial (enters_of Tryd.func98 (by kernel_rfl) rfl)
  HSEQ.out KpG.trans (fun W' l' o o' hlw hl' ho _ => KpG.putObj W' l' o o' hl' ho) (Below.refl _ _) (fun _ => rfl)
  (fun pre W => (Boxed W w.heap.size 9 (.string s) ∧ Boxed W (w.heap.size + 1) 4 (.bool (rowS s (pre.map Kd.x) kf b false).1) ∧ Boxed W (w.heap.size + 1 + 1) 4 (.bool (rowS s (pre.map Kd.x) kf b false).2.1)) ∧ Ch g w W ∧
   (∀ rest, ks = pre.map Kd.x ++ rest → SpM W g (P ++ s0 :: (SLs (pre.map Kd.x) (rowS s (pre.map Kd.x) kf b false).2.2 ++ (SLs rest (kf.drop (szL (pre.map Kd.x))) ++ Q)))))
  (fun _ _ _ => False)
  (OwnQ.and (fun st X Y ⟨h1, h2, h3⟩ hr => ⟨hr.cells h1 (by decide), hr.cells h2 (by decide), hr.cells h3 (by decide)⟩) (OwnQ.and (ownQ_ch (by omega)) (fun st X Y h hr rest e => (h rest e).rel hr))) (fun c st X Y h => h.elim)
  ⟨⟨HI0.out.1, by rw [List.map_nil, rowS_nil]; exact HI0.out.2.1, by rw [List.map_nil, rowS_nil]; exact HI0.out.2.2.1⟩, Ch.of_below HI0.out.2.2.2.2, fun rest e => by
   rw [List.map_nil, List.nil_append] at e
   subst e
   rw [List.map_nil, rowS_nil, SLs_nil, szL_nil, List.drop_zero, List.nil_append]
   exact HI0.out.2.2.2.1⟩
  (fun k a' W' => a' = { tmps := #[.func (.func 98) #[] #[.pointer (some ⟨Bk, 0, none⟩)], .string s, .bool b, undef, .pointer (some ⟨w.heap.size, 0, none⟩), .pointer (some ⟨w.heap.size + 1, 0, none⟩), .bool false, .pointer (some ⟨w.heap.size + 1 + 1, 0, none⟩), k.v g, undef, .func (.func 98) #[] #[.pointer (some ⟨Bk, 0, none⟩)], k.v g, undef, undef, undef, undef, undef, undef, undef, undef, undef, undef, undef, undef, undef, undef, undef, undef, undef, undef, undef, undef, undef, undef, undef, undef, undef, undef, undef, undef], defers := [] })
  (fun k a' st X Y h _ => h) ?assign ?body ?done (fun _ _ _ _ _ _ h _ => h.elim)
 case assign =>
  intro l1 pre k W' K hI hpx hK
  have HK := Lib.hid hK
  have HI' := Lib.hid hI
  clear hK hI
  gi_wp2
  exact HK.out _ _ (KeepsFrom.refl _ _) (KpG.refl _ _ _) HI'.out (by simp [encK])
 case body =>
  rintro l1 pre k a' W hwl hloop hpx ⟨⟨h4, h5, h7⟩, hch, hspm⟩ rfl
  obtain ⟨rest, hke, hko, hkc⟩ := kidsAt_pre hpx
  have hm := hspm _ hke
  obtain ⟨m, hmm⟩ : ∃ m, pre.map Kd.x = m := ⟨_, rfl⟩
  obtain ⟨x, hxx⟩ : ∃ x, k.x = x := ⟨_, rfl⟩
  have hpk : (pre ++ [k]).map Kd.x = m ++ [x] := by rw [List.map_append, hmm, ← hxx]; rfl
  simp only [hmm, hxx] at h5 h7 hm hke hko hkc
  have hxg : x.good := HS.out.2 x (by rw [hke]; simp)
  have hxs : StepC x := HS.out.1 x (by rw [hke]; simp)
  have hmg : goodL m := fun y hy => HS.out.2 y (by rw [hke]; simp [hy])
  have hszk : szL ks = szL m + (x.sz + szL rest) := by rw [hke, szL_app, szL_cons]
  obtain ⟨r1, r2, fm, hr⟩ : ∃ r1 r2 fm, rowS s m kf b false = (r1, r2, fm) := ⟨_, _, _, rfl⟩
  have hfm : fm.length = szL m := by
   have h1 : rowS s m kf b false = rowS s m (kf.take (szL m)) b false := rowS_take s m kf b false
   have := rowS_len s m hmg (kf.take (szL m)) b false (by rw [List.length_take]; omega)
   rw [← h1, hr] at this
   exact this
  rw [hr] at h5 h7 hm
  simp only at h5 h7 hm
  obtain ⟨f, hf⟩ : ∃ f, (kf.drop (szL m)).take x.sz = f := ⟨_, rfl⟩
  have hfl2 : f.length = x.sz := by rw [← hf, List.length_take, List.length_drop]; omega
  have hkd : (kf.drop (szL m)).drop x.sz = kf.drop (szL (m ++ [x])) := by rw [szL_app, szL_cons, szL_nil, List.drop_drop]; simp
  rw [SLs_cons x rest _ (by rw [List.length_drop]; omega), hf, hkd] at hm
  have hsn := rowS_snoc s x m kf b false
  rw [hr, hf] at hsn
  simp only at hsn
  obtain ⟨f', hf'⟩ : ∃ f', stepF s x f r1 = f' := ⟨_, rfl⟩
  have hfl3 : f'.length = x.sz := by rw [← hf']; exact stepF_len s x hxg f r1 hfl2
  have hxc := hxs g (P ++ s0 :: SLs m fm) (SLs rest (kf.drop (szL (m ++ [x]))) ++ Q) f k.c s r1
  have hPl : (P ++ s0 :: SLs m fm).length = k.o := by rw [List.length_append, List.length_cons, SLs_len hfm, hko]; omega
  rw [hf', hPl] at hxc
  rw [hf'] at hsn
  have hm' : SpM W g ((P ++ s0 :: SLs m fm) ++ (SL x f ++ (SLs rest (kf.drop (szL (m ++ [x]))) ++ Q))) := by simpa using hm
  obtain ⟨e0, fk, hfk⟩ : ∃ e0 fk, f = e0 :: fk := List.exists_cons_of_length_pos (by rw [hfl2]; exact x.sz_pos)
  have hm0 : SpM W g ((P ++ s0 :: SLs m fm) ++ spX e0 x :: (SLs x.kids fk ++ (SLs rest (kf.drop (szL (m ++ [x]))) ++ Q))) := by
   rw [hfk, SL_cons] at hm'
   simpa using hm'
  have he0 : hd f = e0 := by rw [hfk]; rfl
  obtain ⟨-, -, -, z3, z4⟩ := hm0.at0
  simp only [hPl, spX] at z3 z4
  have c4 := h4.cell
  have c5 := h5.cell
  have hg4 := hm0.ne h4 (by decide)
  have hg5 := hm0.ne h5 (by decide)
  have hg7 := hm0.ne h7 (by decide)
  have hcall := hxc W hfl2 hm' (by omega) (by omega)
  have hfin : ∀ W5, SpM W5 g ((P ++ s0 :: SLs m fm) ++ (SL x f' ++ (SLs rest (kf.drop (szL (m ++ [x]))) ++ Q))) → Ch g W W5 →
    (W5.cell? ⟨w.heap.size + 1 + 1, 0, none⟩ = some (.bool r2) ∧ W5.frozen? ⟨w.heap.size + 1 + 1, 0, none⟩ = false ∧ W5.cell? ⟨w.heap.size + 1, 0, none⟩ = some (.bool r1) ∧ W5.frozen? ⟨w.heap.size + 1, 0, none⟩ = false ∧ W5.cell? ⟨g, k.o * 5 + 3, none⟩ = some (.bool x.emp)) ∧
    ∀ u v, u = (hd f' || (r2 && x.emp)) → v = (e0 || (r1 && x.emp)) → (KeepsFrom W0.heap.size W ((W5.setCell ⟨w.heap.size + 1 + 1, 0, none⟩ (.bool u)).setCell ⟨w.heap.size + 1, 0, none⟩ (.bool v)) ∧ KpG g (P ++ s0 :: (SLs ks kf ++ Q)).length W ((W5.setCell ⟨w.heap.size + 1 + 1, 0, none⟩ (.bool u)).setCell ⟨w.heap.size + 1, 0, none⟩ (.bool v)) ∧
     (Boxed ((W5.setCell ⟨w.heap.size + 1 + 1, 0, none⟩ (.bool u)).setCell ⟨w.heap.size + 1, 0, none⟩ (.bool v)) w.heap.size 9 (.string s) ∧ Boxed ((W5.setCell ⟨w.heap.size + 1 + 1, 0, none⟩ (.bool u)).setCell ⟨w.heap.size + 1, 0, none⟩ (.bool v)) (w.heap.size + 1) 4 (.bool (rowS s ((pre ++ [k]).map Kd.x) kf b false).1) ∧ Boxed ((W5.setCell ⟨w.heap.size + 1 + 1, 0, none⟩ (.bool u)).setCell ⟨w.heap.size + 1, 0, none⟩ (.bool v)) (w.heap.size + 1 + 1) 4 (.bool (rowS s ((pre ++ [k]).map Kd.x) kf b false).2.1)) ∧ Ch g w ((W5.setCell ⟨w.heap.size + 1 + 1, 0, none⟩ (.bool u)).setCell ⟨w.heap.size + 1, 0, none⟩ (.bool v)) ∧
     (∀ rest, ks = (pre ++ [k]).map Kd.x ++ rest → SpM ((W5.setCell ⟨w.heap.size + 1 + 1, 0, none⟩ (.bool u)).setCell ⟨w.heap.size + 1, 0, none⟩ (.bool v)) g (P ++ s0 :: (SLs ((pre ++ [k]).map Kd.x) (rowS s ((pre ++ [k]).map Kd.x) kf b false).2.2 ++ (SLs rest (kf.drop (szL ((pre ++ [k]).map Kd.x))) ++ Q))))) := by
   intro W5 hm5 hch5
   obtain ⟨e1, fk1, hfk1⟩ : ∃ e1 fk1, f' = e1 :: fk1 := List.exists_cons_of_length_pos (by rw [hfl3]; exact x.sz_pos)
   have hm6 : SpM W5 g ((P ++ s0 :: SLs m fm) ++ spX e1 x :: (SLs x.kids fk1 ++ (SLs rest (kf.drop (szL (m ++ [x]))) ++ Q))) := by
    rw [hfk1, SL_cons] at hm5
    simpa using hm5
   obtain ⟨-, -, -, y3, -⟩ := hm6.at0
   simp only [hPl, spX] at y3
   have b4 := hch5.boxed h4 hg4
   have b5 := hch5.boxed h5 hg5
   have b7 := hch5.boxed h7 hg7
   refine ⟨⟨b7.cell, b7.frozen, b5.cell, b5.frozen, y3⟩, ?_⟩
   rintro u v hu hv
   have hlist : (P ++ s0 :: SLs m fm) ++ (SL x f' ++ (SLs rest (kf.drop (szL (m ++ [x]))) ++ Q)) = P ++ s0 :: (SLs (m ++ [x]) (fm ++ f') ++ (SLs rest (kf.drop (szL (m ++ [x]))) ++ Q)) := by
    rw [SLs_app m [x] fm f' hfm, SLs_one x f' hfl3]
    simp
   have hmF : SpM ((W5.setCell ⟨w.heap.size + 1 + 1, 0, none⟩ (.bool u)).setCell ⟨w.heap.size + 1, 0, none⟩ (.bool v)) g ((P ++ s0 :: SLs m fm) ++ (SL x f' ++ (SLs rest (kf.drop (szL (m ++ [x]))) ++ Q))) :=
    (hm5.block (Below.heap_setCell _ _ _ _ (fun e => hg7 e.symm))).block (Below.heap_setCell _ _ _ _ (fun e => hg5 e.symm))
   have hk5 : KeepsFrom W0.heap.size W ((W5.setCell ⟨w.heap.size + 1 + 1, 0, none⟩ (.bool u)).setCell ⟨w.heap.size + 1, 0, none⟩ (.bool v)) := ((hch5.kf hm).trans ((KeepsOthers.setCell _ _ _).from _)).trans ((KeepsOthers.setCell _ _ _).from _)
   rw [hpk, hsn]
   simp only
   refine ⟨hk5, KpG.of_sp hk5.size hm' hmF ?_ ?_, ⟨(b4.other (by omega) _).other (by omega) _, ?_, ?_⟩, ((hch.trans hch5).set_new (by show w.heap.size ≤ w.heap.size + 1 + 1; omega)).set_new (by show w.heap.size ≤ w.heap.size + 1; omega), fun rest' e => ?_⟩
   ·simp only [List.map_append]
    rw [SL_size hfl3 hfl2]
   ·have l1 : (SLs m fm).length = szL m := SLs_len hfm
    have l2 : (SLs ks kf).length = szL ks := SLs_len hfl
    have l3 : (SL x f).length = x.sz := SL_len hfl2
    have l4 : (SLs rest (kf.drop (szL (m ++ [x])))).length = szL rest := SLs_len (by rw [List.length_drop, szL_app, szL_cons, szL_nil]; omega)
    simp only [List.length_append, List.length_cons, l1, l2, l3, l4]
    omega
   ·rw [he0, ← hv]
    exact (b5.other (by omega) _).set _
   ·rw [← hu]
    exact (b7.set _).other (by omega) _
   ·have er : rest' = rest := by
     rw [hke] at e
     have : m ++ (x :: rest) = m ++ (x :: rest') := by rw [e]; simp
     have := List.append_cancel_left this
     injection this with _ this
     exact this.symm
    subst er
    rw [← hlist]
    exact hmF
  have HFIN := Lib.hid hfin
  have HCALL := Lib.hid hcall
  have HE0 := Lib.hid he0
  clear hfin hcall he0 hm hm' hm0 hxc hsn hspm h4 h5 h7 hch hpx hke hko hkc hfk hf hf' hr hpk
  simp only [Kd.v, hxx]
  have hxp : (0 : Int) < (x.sz : Int) := by have := x.sz_pos; omega
  generalize x.emp = em at *
  rcases Bool.eq_false_or_eq_true e0 with rfl | rfl <;> rcases Bool.eq_false_or_eq_true r1 with rfl | rfl <;> rcases Bool.eq_false_or_eq_true em with rfl | rfl
  all_goals
   ·gi_wp2
    refine ⟨trivial, ?_⟩
    refine (CallsIn.inRound l1 (callsIn_wide.2 HCALL.out)).mono ?_
    rintro e W5 ⟨rfl, hm5, hch5⟩
    obtain ⟨⟨k7, k7', k5, k5', k3⟩, hF⟩ := HFIN.out W5 hm5 hch5
    have HF := Lib.hid hF
    clear hF hm5 hch5
    generalize hd f' = rs at *
    rcases Bool.eq_false_or_eq_true rs with rfl | rfl <;> rcases Bool.eq_false_or_eq_true r2 with rfl | rfl
    all_goals
     gi_wp2
     exact HF.out _ _ rfl rfl
 case done =>
  rintro D W hD ⟨⟨h4, h5, h7⟩, hch, hspm⟩ hK
  have hmp : (kidsAt ks (P.length + 1) (c - 1)).map Kd.x = ks := kidsAt_x ks _ _
  rw [hmp] at h7 hspm
  have hm := hspm [] (by simp)
  rw [SLs_nil, List.nil_append] at hm
  have hc7 := h7.cell
  have HB := Lib.hid (And.intro hm (And.intro hch hK))
  clear h4 h5 h7 hch hspm hm
  go_wp2_with fail
  refine ⟨by simp, .inl ⟨_, _, rfl, run_takeDeferred hK, ?_⟩⟩
  refine ⟨.bool (rowS s ks kf b false).2.1, by simp [results, Tryd.f79, go_sem], rfl, ?_, ?_⟩
  ·refine HB.out.1.block (World.putObj_heap_other fun e => ?_)
   subst e
   obtain ⟨cur, h, _⟩ := HB.out.1
   rw [hK] at h
   cases h
  ·exact HB.out.2.1.putObj (by omega)
end Go.Proofs.YtnccgaanfjaimaaDoor

namespace Go.Proofs.YtnccgaanfjaimaaDoor
open Go.ChangeShapes Go.WideShapes Go.ChangeAt Go.RowKit
set_option linter.unusedVariables false
set_option linter.unusedSimpArgs false

theorem good_kind {x : X} (h : x.good) : x.kind = 1 ∨ x.kind = 2 ∨ (x.kind = 3 ∨ x.kind = 6) ∨ (x.kind = 4 ∨ x.kind = 5) := by
 have hf := h.fit
 unfold X.fits fitB at hf
 by_cases h1 : x.kind = 1
 ·exact .inl h1
 ·rw [if_neg h1] at hf
  by_cases h2 : x.kind = 2 ∨ x.kind = 3
  ·rcases h2 with h2 | h2
   ·exact .inr (.inl h2)
   ·exact .inr (.inr (.inl (.inl h2)))
  ·rw [if_neg h2] at hf
   by_cases h3 : x.kind = 4 ∨ x.kind = 5 ∨ x.kind = 6
   ·rcases h3 with h3 | h3 | h3
    ·exact .inr (.inr (.inr (.inl h3)))
    ·exact .inr (.inr (.inr (.inr h3)))
    ·exact .inr (.inr (.inl (.inr h3)))
   ·rw [if_neg h3] at hf
    cases hf
/-- the flags behind the first k labels of a word -/
def flW (x : X) (word : List ByteArray) : Nat → List Bool
 | 0 => List.replicate x.sz false
 | k + 1 => stepF ((word[k]?).getD ⟨#[]⟩) x (flW x word k) (decide (k = 0))
theorem flW_len {x : X} (hg : x.good) (word : List ByteArray) : ∀ k, (flW x word k).length = x.sz
 | 0 => by simp [flW]
 | k + 1 => by rw [flW]; exact stepF_len _ x hg _ _ (flW_len hg word k)
/-- does an expression take a word? -/
def takesB (x : X) (word : List ByteArray) : Bool := x.right && (hd (flW x word word.length) || (decide (word.length = 0) && x.emp))

/-- where no flag is there none comes but by a beginning -/
theorem stepF_none (s : ByteArray) : ∀ (x : X), x.good → ∀ (fl : List Bool), fl.length = x.sz → (∀ e ∈ fl, e = false) → ∀ e ∈ stepF s x fl false, e = false := by
 intro x
 induction x using X.ind' with
 | h x ih =>
  intro hg fl hl hf
  have hhd : ∀ (l : List Bool), (∀ e ∈ l, e = false) → hd l = false := fun l h => by
   cases l with
   | nil => rfl
   | cons a l => exact h a (by simp)
  have hrow : ∀ (ks : List X), (∀ y ∈ ks, y ∈ x.kids) → ∀ (kf : List Bool), kf.length = szL ks → (∀ e ∈ kf, e = false) → (rowS s ks kf false false).2.1 = false ∧ ∀ e ∈ (rowS s ks kf false false).2.2, e = false := by
   intro ks
   induction ks with
   | nil => intro _ kf _ _; rw [rowS_nil]; exact ⟨rfl, fun e h => by cases h⟩
   | cons y ys ihy =>
    intro hin kf hk hkf
    rw [szL_cons] at hk
    have h1 := ih y (hin y (by simp)) (hg.kids y (hin y (by simp))) (kf.take y.sz) (by rw [List.length_take]; omega) (fun e he => hkf e (List.mem_of_mem_take he))
    have h2 := ihy (fun z hz => hin z (by simp [hz])) (kf.drop y.sz) (by rw [List.length_drop]; omega) (fun e he => hkf e (List.mem_of_mem_drop he))
    rw [rowS_cons]
    rw [hhd _ (fun e he => hkf e (List.mem_of_mem_take he)), hhd _ h1]
    simp only [Bool.false_and, Bool.or_self]
    refine ⟨h2.1, fun e he => ?_⟩
    rcases List.mem_append.1 he with he | he
    ·exact h1 e he
    ·exact h2.2 e he
  have halt : ∀ (ks : List X), (∀ y ∈ ks, y ∈ x.kids) → ∀ (kf : List Bool), kf.length = szL ks → (∀ e ∈ kf, e = false) → (altS s ks kf false false).1 = false ∧ ∀ e ∈ (altS s ks kf false false).2, e = false := by
   intro ks
   induction ks with
   | nil => intro _ kf _ _; rw [altS_nil]; exact ⟨rfl, fun e h => by cases h⟩
   | cons y ys ihy =>
    intro hin kf hk hkf
    rw [szL_cons] at hk
    have h1 := ih y (hin y (by simp)) (hg.kids y (hin y (by simp))) (kf.take y.sz) (by rw [List.length_take]; omega) (fun e he => hkf e (List.mem_of_mem_take he))
    have h2 := ihy (fun z hz => hin z (by simp [hz])) (kf.drop y.sz) (by rw [List.length_drop]; omega) (fun e he => hkf e (List.mem_of_mem_drop he))
    rw [altS_cons]
    rw [hhd _ h1]
    simp only [Bool.or_self]
    refine ⟨h2.1, fun e he => ?_⟩
    rcases List.mem_append.1 he with he | he
    ·exact h1 e he
    ·exact h2.2 e he
  have htl : fl.tail.length = szL x.kids := by rw [List.length_tail, hl, X.sz_eq]; omega
  have htf : ∀ e ∈ fl.tail, e = false := fun e he => hf e (List.mem_of_mem_tail he)
  obtain ⟨r1, r2⟩ := hrow x.kids (fun y hy => hy) fl.tail htl htf
  obtain ⟨a1, a2⟩ := halt x.kids (fun y hy => hy) fl.tail htl htf
  rw [stepF_eq]
  intro e he
  split at he
  ·rcases List.mem_cons.1 he with rfl | he
   ·rfl
   ·exact htf e he
  ·split at he
   ·rcases List.mem_cons.1 he with rfl | he
    ·exact r1
    ·exact r2 e he
   ·split at he
    ·rcases List.mem_cons.1 he with rfl | he
     ·exact a1
     ·exact a2 e he
    ·rw [hhd _ htf] at he
     simp only [Bool.or_self] at he
     rcases List.mem_cons.1 he with rfl | he
     ·exact hhd _ a2
     ·exact a2 e he
theorem flW_dead {x : X} (hg : x.good) {word : List ByteArray} {k : Nat} (h0 : 0 < k) (h : ∀ e ∈ flW x word k, e = false) : ∀ n, k ≤ n → ∀ e ∈ flW x word n, e = false := by
 intro n hn
 induction n with
 | zero => omega
 | succ n ih =>
  by_cases hk : k = n + 1
  ·subst hk; exact h
  ·rw [flW, decide_eq_false (by omega)]
   exact stepF_none _ x hg _ (flW_len hg word n) (ih (by omega))
theorem hd_false {l : List Bool} (h : ∀ e ∈ l, e = false) : hd l = false := by
 cases l with
 | nil => rfl
 | cons a l => exact h a (by simp)
theorem right_good {x : X} (h : x.right = true) : x.good ∧ x.sz ≤ 24 := by
 unfold X.right at h
 rw [Bool.and_eq_true, decide_eq_true_eq, List.all_eq_true] at h
 exact ⟨h.2, h.1⟩

/-- the slice v holds just the texts of l; all lies in blocks below B -/
def SR (B : Nat) (w : World) (v : Value) (l : List ByteArray) : Prop :=
 ∃ A c, v = .slice A l.length c ∧ (0 < l.length → ∃ ad, A = some ad ∧ ad.block < B ∧ ∀ k (h : k < l.length), w.cell? (ad.add k) = some (.string l[k]))
theorem SR.bel {B : Nat} {w w' : World} {v : Value} {l : List ByteArray} (h : SR B w v l) (hb : Below B w w') : SR B w' v l := by
 obtain ⟨A, c, rfl, h⟩ := h
 refine ⟨A, c, rfl, fun hn => ?_⟩
 obtain ⟨ad, rfl, hg, hc⟩ := h hn
 exact ⟨ad, rfl, hg, fun k hlt => (World.cell?_of_block (a := ad.add k) (by rw [block_add]; exact hb.block _ hg)).trans (hc k hlt)⟩

theorem SL_rep (x : X) (e : Bool) : SL x (List.replicate x.sz e) = x.parts.map (spX e) := by
 unfold SL X.sz
 generalize x.parts = l
 induction l with
 | nil => rfl
 | cons a l ih => rw [List.length_cons, List.replicate_succ, List.zipWith_cons_cons, ih]; rfl
theorem spots_mem {w : World} {base : Nat} {sv : Value} {x : X} (h : w.ownsRow base 94 5 sv x.sz (flatS (x.parts.map (spX false)))) : ∃ g cap, sv = .slice (some ⟨g, 0, none⟩) x.sz cap ∧ base ≤ g ∧ SpM w g (SL x (List.replicate x.sz false)) ∧ x.sz ≤ cap := by
 have hp := x.sz_pos
 rcases h.2 with ⟨_, h0⟩ | ⟨g, cap, cur, rfl, hb, hg, hc, _, _, ht⟩
 ·omega
 ·refine ⟨g, cap, rfl, hb, ⟨cur, hg, fun j u hj => ?_⟩, hc⟩
  rw [SL_rep, ← ht] at hj
  have hlt := (List.getElem?_eq_some_iff.1 hj).1
  rw [List.length_take] at hlt
  rw [List.getElem?_take_of_lt (by omega)] at hj
  simpa using hj

end Go.Proofs.YtnccgaanfjaimaaDoor

namespace Go.Proofs.YtnccgaanfjaimaaDoor
open Go.ChangeShapes Go.WideShapes Go.ChangeAt Go.RowKit Go.Deep Go.Joins
set_option linter.unusedVariables false
set_option linter.unusedSimpArgs false

theorem own : ownKnob Tryd.prog.godebug = none := by kernel_rfl
theorem laidB : laidOutB Tryd.prog = true := by kernel_rfl
theorem cells9 : Tryd.prog.cellsOf 9 = 1 := by kernel_rfl
theorem cells22 : Tryd.prog.cellsOf 22 = 1 := by kernel_rfl
theorem cells23 : Tryd.prog.cellsOf 23 = 1 := by kernel_rfl
theorem cells25 : Tryd.prog.cellsOf 25 = 3 := by kernel_rfl
theorem read25 : Tryd.prog.readableRec 25 = true := by kernel_rfl
theorem read26 : Tryd.prog.readableRec 41 = true := by kernel_rfl
theorem lt25 : 25 < Tryd.prog.types.size := of_decide_eq_true (by kernel_rfl)
theorem lt26 : 41 < Tryd.prog.types.size := of_decide_eq_true (by kernel_rfl)
theorem bytes9 : Tryd.prog.bytesOf 9 = 16 := by kernel_rfl
theorem weightsAll_mem {H : Type} {P : Program} {e : TypeId} : ∀ {ds : List (DataW H)} {d : DataW H} {n : Nat}, d ∈ ds → n ∈ d.weights P e → n ∈ DataW.weightsAll P e ds
 | x :: r, d, n, hd, hn => by
  simp only [DataW.weightsAll, List.mem_append]
  rcases List.mem_cons.1 hd with rfl | hd
  ·exact .inl hn
  ·exact .inr (weightsAll_mem hd hn)
theorem len3 {α : Type} {cs : List α} (h : cs.length = 3) : ∃ v0 v1 v2, cs = [v0, v1, v2] := by
 match cs, h with
 | [a, b, c], _ => exact ⟨a, b, c, rfl⟩
theorem pick_lt {α : Type} [Inhabited α] {p : Nat → α → Prop} {n : Nat} (h : ∀ i, i < n → ∃ y, p i y) : ∃ f : Nat → α, ∀ i, i < n → p i (f i) := by
 have hch : ∀ i, ∃ y, i < n → p i y := fun i => by
  by_cases hi : i < n
  ·obtain ⟨y, hy⟩ := h i hi
   exact ⟨y, fun _ => hy⟩
  ·exact ⟨default, fun h => absurd h hi⟩
 exact ⟨fun i => (hch i).choose, fun i hi => (hch i).choose_spec hi⟩
instance : Inhabited X := ⟨.mk 0 ⟨#[]⟩ []⟩

set_option maxRecDepth 100000 in
theorem open_cells25 {H : Type} {enc : TypeId × Value → H} {w : World} {fuel : Nat} {cs : List Value} {x : DataW H × List MemPlace} (h : DataW.trod enc Tryd.prog w 0 (fun _ => true) true fuel 25 cs = some x) :
  ∃ n k s V y, fuel = n + 1 ∧ cs = [.int .i64 k, .string s, V] ∧ DataW.trod enc Tryd.prog w 0 (fun _ => true) true n 23 [V] = some y ∧ (∀ m ∈ y.1.weights Tryd.prog 23, m ∈ x.1.weights Tryd.prog 25) ∧ s.size ∈ x.1.weights Tryd.prog 25 := by
 obtain ⟨xs, n, hfu, rfl, hl, hlen, hf⟩ := DataW.trod_struct Tryd.underlying25 h
 match xs, hlen with
 | [y0, y1, y2], _ =>
  rw [cells25] at hl
  obtain ⟨v0, v1, v2, rfl⟩ := len3 hl
  have h0 := hf 0 _ rfl
  have h1 := hf 1 _ rfl
  have h2 := hf 2 _ rfl
  simp only [cells9, cells22, cells23, List.drop_zero, List.drop_succ_cons, List.take_succ_cons, List.take_zero, List.getElem?_cons_zero, List.getElem?_cons_succ] at h0 h1 h2
  obtain ⟨k0, f0, g0, _⟩ := DataW.trod_int Tryd.underlying22 h0
  obtain ⟨s1, f1, t1, _⟩ := DataW.trod_string Tryd.underlying9 h1
  injection f0 with f0
  injection f1 with f1
  subst f0 f1
  refine ⟨n, k0, s1, v2, y2, hfu, rfl, h2, fun m hm => ?_, ?_⟩
  ·simp only [List.map_cons, List.map_nil, DataW.weights, Tryd.underlying25]
   simp [DataW.weightsEach, hm]
  ·simp only [List.map_cons, List.map_nil, DataW.weights, Tryd.underlying25]
   simp [DataW.weightsEach, t1, DataW.weights]

set_option maxRecDepth 100000 in
/-- a row of expressions among the arguments -/
theorem open_exprs {H : Type} {enc : TypeId × Value → H} {w : World} : ∀ (fuel : Nat) (V : Value) (x : DataW H × List MemPlace), DataW.trod enc Tryd.prog w 0 (fun _ => true) true fuel 23 [V] = some x →
  ∃ l, XR w.heap.size w V l ∧ ((∀ n ∈ x.1.weights Tryd.prog 23, n ≤ reachBytes) → ∀ p ∈ partsL l, p.lab.size ≤ reachBytes) := by
 intro fuel
 induction fuel using Nat.strongRecOn with
 | ind fuel ih =>
  intro V x h
  rcases DataW.trod_slice Tryd.underlying23 h with ⟨hcs, hx⟩ | ⟨a, len, cap, elems, rest, n, rfl, hcs, rfl, hb, hl, hm, hlen, hel, _, _⟩
  ·obtain rfl : V = .slice none 0 0 := by simpa using hcs
   exact ⟨[], XR.nil _ _ _ _, fun _ p hp => by rw [partsL_nil] at hp; cases hp⟩
  ·obtain rfl : V = .slice (some a) len cap := by simpa using hcs
   rw [cells25] at hel
   have step : ∀ i, i < len → ∃ (q : X × Value), (w.cell? (a.add (i * 3)) = some (.int .i64 q.1.kind) ∧ w.cell? (a.add (i * 3 + 1)) = some (.string q.1.lab) ∧ w.cell? (a.add (i * 3 + 2)) = some q.2) ∧ XR w.heap.size w q.2 q.1.kids ∧
     ((∀ n ∈ DataW.weightsAll Tryd.prog 25 (elems.map (·.1)), n ≤ reachBytes) → ∀ p ∈ q.1.parts, p.lab.size ≤ reachBytes) := by
    intro i hi
    have h1 := hel i hi
    rw [List.getElem?_eq_getElem (by omega)] at h1
    obtain ⟨cs', h2, h3⟩ := Option.bind_eq_some_iff.1 h1
    obtain ⟨n', k, s, V', y, rfl, rfl, h4, h5, h6⟩ := open_cells25 h3
    obtain ⟨_, hlen', hcell⟩ := World.cells?_some h2
    have e0 := hcell 0 (by omega)
    have e1 := hcell 1 (by omega)
    have e2 := hcell 2 (by omega)
    rw [add_of_add] at e0 e1 e2
    obtain ⟨l, hl1, hl2⟩ := ih n' (by omega) V' y h4
    refine ⟨(.mk k s l, V'), ⟨by simpa [X.kind] using e0, by simpa [X.lab] using e1, by simpa using e2⟩, hl1, fun hw p hp => ?_⟩
    have hw' : ∀ m ∈ (elems[i]).1.weights Tryd.prog 25, m ≤ reachBytes := fun m hm => hw m (weightsAll_mem (List.mem_map.2 ⟨elems[i], List.getElem_mem _, rfl⟩) hm)
    rw [X.parts_eq] at hp
    rcases List.mem_cons.1 hp with rfl | hp
    ·exact hw' _ h6
    ·exact hl2 (fun m hm => hw' m (h5 m hm)) p hp
   obtain ⟨Lf, hLf⟩ := pick_lt step
   have hlen2 : ((List.range len).map fun i => (Lf i).1).length = len := by simp
   refine ⟨(List.range len).map fun i => (Lf i).1, ?_, fun hw p hp => ?_⟩
   ·have := XR.mk (B := w.heap.size) (w := w) (some a) cap ((List.range len).map fun i => (Lf i).1) a (fun i => (Lf i).2) (by rw [hlen2]; exact hl) (fun h0 => ⟨rfl, by
      rw [hlen2] at h0
      have := World.block_lt_of_cell? _ _ (hLf 0 h0).1.1
      rwa [block_add] at this⟩)
     (fun i hi => by rw [hlen2] at hi; simpa using (hLf i hi).1.1) (fun i hi => by rw [hlen2] at hi; simpa using (hLf i hi).1.2.1) (fun i hi => by rw [hlen2] at hi; exact (hLf i hi).1.2.2) (fun i hi => by rw [hlen2] at hi; simpa using (hLf i hi).2.1)
    rwa [hlen2] at this
   ·have hq : ∃ i, i < len ∧ p ∈ (Lf i).1.parts := by
     clear hlen2
     have : ∀ is : List Nat, (∀ i ∈ is, i < len) → p ∈ partsL (is.map fun i => (Lf i).1) → ∃ i, i < len ∧ p ∈ (Lf i).1.parts := by
      intro is
      induction is with
      | nil => intro _ h; rw [List.map_nil, partsL_nil] at h; cases h
      | cons i is ihh =>
       intro hi h
       rw [List.map_cons, partsL_cons] at h
       rcases List.mem_append.1 h with h | h
       ·exact ⟨i, hi i (by simp), h⟩
       ·exact ihh (fun j hj => hi j (by simp [hj])) h
     exact this _ (fun i hi => List.mem_range.1 hi) hp
    obtain ⟨i, hi, hpi⟩ := hq
    refine (hLf i hi).2.2 (fun m hm => hw m ?_) p hpi
    simp only [DataW.weights, Tryd.underlying23, List.mem_cons, List.mem_append]
    exact .inr (.inl hm)

set_option maxRecDepth 100000 in
/-- an expression among the arguments -/
theorem open_expr {H : Type} {enc : TypeId × Value → H} {W : World} {v : Value} {d : DataW H} {p : List MemPlace} {base : Nat} (hv : Value.okWide Tryd.prog W .any base 25 v) (h : DataW.Trod enc Tryd.prog W 0 (fun _ => true) true 25 v d p) :
  ∃ x : X, XV W.heap.size W v x ∧ ((∀ n ∈ d.weights Tryd.prog 25, n ≤ reachBytes) → x.lit) := by
 obtain ⟨cs, rfl, hsz⟩ := okWide_struct Tryd.underlying25 hv
 obtain ⟨fuel, hf⟩ := h
 obtain ⟨n, k, s, V, y, rfl, hcs, h1, h2, h3⟩ := open_cells25 hf
 obtain ⟨l, hl1, hl2⟩ := open_exprs n V y h1
 rw [cells25] at hsz
 obtain ⟨L⟩ := cs
 obtain ⟨c0, c1, c2, rfl⟩ := len3 (cs := L) hsz
 have hr := reachBytes_lt
 have hml : maxLen = 2 ^ 63 - 1 := rfl
 have hc : c0 = .int .i64 k ∧ c1 = .string s ∧ c2 = V := by
  simpa [Value.cells] using hcs
 obtain ⟨rfl, rfl, rfl⟩ := hc
 refine ⟨.mk k s l, ⟨_, rfl, hl1⟩, fun hw q hq => ?_⟩
 rw [X.parts_eq] at hq
 rcases List.mem_cons.1 hq with rfl | hq
 ·exact Nat.le_trans (hw _ h3) (by omega)
 ·exact Nat.le_trans (hl2 (fun m hm => hw m (h2 m hm)) q hq) (by omega)

set_option maxRecDepth 100000 in
theorem open_texts {H : Type} {enc : TypeId × Value → H} {w : World} {n : Nat} {V : Value} {x : DataW H × List MemPlace} (h : DataW.trod enc Tryd.prog w 0 (fun _ => true) true n 41 [V] = some x) :
  ∃ l, SR w.heap.size w V l ∧ (∀ A m c, V = .slice A m c → m ≤ c) ∧ ((∀ n ∈ x.1.weights Tryd.prog 41, n ≤ reachBytes) → l.length ≤ reachBytes ∧ ∀ s ∈ l, s.size ≤ reachBytes) := by
 rcases open_slice1 Tryd.underlying41 cells9 h with ⟨hcs, hx⟩ | ⟨a, len, cap, m, n', Vs, D, Pl, hcs, _, hl, hm, hmm, rfl, hx⟩
 ·obtain rfl : V = .slice none 0 0 := by simpa using hcs
  exact ⟨[], ⟨none, 0, rfl, fun h => absurd h (by simp)⟩, fun A m c e => by injection e with _ e1 e2; omega, fun _ => ⟨Nat.zero_le _, fun s hs => by cases hs⟩⟩
 ·obtain rfl : V = .slice (some a) len cap := by simpa using hcs
  simp only [if_true] at hmm
  subst hmm
  obtain ⟨Lf, hLf⟩ := pick_lt (α := ByteArray) (p := fun i s => Vs i = .string s ∧ s.size ∈ (D i).weights Tryd.prog 9) (n := len) (fun i hi => by
   obtain ⟨s0, f0, t0, _⟩ := DataW.trod_string Tryd.underlying9 (hx i (by omega)).2
   injection f0 with f0
   refine ⟨s0, f0, ?_⟩
   have t1 : D i = _ := congrArg Prod.fst t0
   rw [t1]
   simp [DataW.weights])
  have hlen : ((List.range len).map Lf).length = len := by simp
  refine ⟨(List.range len).map Lf, ⟨some a, m, by rw [hlen], fun hn => ⟨a, rfl, ?_, fun k hk => ?_⟩⟩, fun A m c e => by injection e with _ e1 e2; omega, fun hw => ⟨?_, fun s hs => ?_⟩⟩
  ·rw [hlen] at hn
   have := World.block_lt_of_cell? _ _ (hx 0 (by omega)).1
   rwa [block_add] at this
  ·rw [hlen] at hk
   rw [(hx k (by omega)).1, (hLf k hk).1]
   simp
  ·have h1 := hw (((List.map D (List.range len)).length + (List.map (fun j => D (len + j)) (List.range (m - len))).length) * Tryd.prog.bytesOf 9) (by simp [DataW.weights, Tryd.underlying41])
   rw [bytes9] at h1
   simp at h1
   rw [hlen]
   omega
  ·obtain ⟨i, hi, rfl⟩ := List.mem_map.1 hs
   rw [List.mem_range] at hi
   refine hw _ ?_
   simp only [DataW.weights, Tryd.underlying41, List.mem_cons, List.mem_append]
   exact .inr (.inl (weightsAll_mem (List.mem_map.2 ⟨i, List.mem_range.2 hi, rfl⟩) (hLf i hi).2))

/-- arguments that are only read, a plain result -/
theorem post_read {H : Type} {enc : TypeId × Value → H} {P : Program} {f : Func} {s : ChangeSpec} {W W' : World} {args : Array Value} {v : Value} {ds gs : List (DataW H)} {before pa pv : List MemPlace}
  (hW : DataW.Whole enc P f.params.toList s.vars false W args.toList ds gs before)
  (hres : ∀ (b : Nat) (sp : Nat → Bool) (hd : Bool), DataW.TrodAll enc P W' b sp hd f.resultTypes.toList (v.resultList f.resultTypes.size) (s.fn H (ds ++ gs)).results [])
  (hargs : DataW.TrodAll enc P W' 0 (fun b => decide (b < W.heap.size)) true f.params.toList args.toList (s.fn H (ds ++ gs)).args pa)
  (hvars : DataW.TrodVars enc P W' (fun b => decide (b < W.heap.size)) s.vars (s.fn H (ds ++ gs)).vars pv)
  (hps : before = pa ++ pv) (hb : Below W.heap.size W W') : s.post enc P f false true false false W args v W' := by
 refine ⟨ds, gs, before, [], pa, pv, hW, hres _ _ _, hargs, hvars, World.keptBut_mono (fun p hp => ⟨hp, ?_⟩) (hb.frame (· ∈ before)), fun h => by cases h⟩
 rw [hps, List.mem_append] at hp
 exact .inr hp
end Go.Proofs.YtnccgaanfjaimaaDoor

namespace Go.Proofs.YtnccgaanfjaimaaDoor
open Go.ChangeShapes Go.WideShapes Go.ChangeAt Go.RowKit
set_option linter.unusedVariables false
set_option linter.unusedSimpArgs false

/-- the places of a set, rising -/
def els (s : Nat) : List Nat := (List.range 32).filter fun p => s.testBit p
theorem mem_els {s p : Nat} : p ∈ els s ↔ p < 32 ∧ s.testBit p = true := by simp [els]
theorem els_zero : els 0 = [] := by simp [els]
theorem els_len (s : Nat) : (els s).length ≤ 32 := by
 unfold els
 exact Nat.le_trans (List.length_filter_le _ _) (by simp)
theorem lt_of_bits {s n : Nat} (h : ∀ i, n ≤ i → s.testBit i = false) : s < 2 ^ n := Nat.lt_pow_two_of_testBit s h
theorem bit_false {s n i : Nat} (h : s < 2 ^ n) (hi : n ≤ i) : s.testBit i = false := Nat.testBit_lt_two_pow (Nat.lt_of_lt_of_le h (Nat.pow_le_pow_right (by decide) hi))
/-- the lowest one, and the others -/
theorem els_low {s k m : Nat} (hs : s = 2 ^ k * (2 * m + 1)) (hk : k < 32) : els s = k :: els (s &&& (s - 1)) := by
 have h1 : s - 1 = 2 ^ k * (2 * m) + (2 ^ k - 1) := by
  have : 0 < 2 ^ k := Nat.two_pow_pos k
  rw [hs, Nat.mul_add]
  omega
 have hb : 2 ^ k - 1 < 2 ^ k := by have : 0 < 2 ^ k := Nat.two_pow_pos k; omega
 have t1 : ∀ i, s.testBit i = if i < k then false else (2 * m + 1).testBit (i - k) := by
  intro i
  rw [hs, Nat.mul_comm, Nat.testBit_mul_two_pow]
  by_cases h : i < k
  ·rw [if_pos h]; simp; omega
  ·rw [if_neg h]; simp; omega
 have t2 : ∀ i, (s - 1).testBit i = if i < k then (2 ^ k - 1).testBit i else (2 * m).testBit (i - k) := by
  intro i
  rw [h1, Nat.testBit_two_pow_mul_add _ hb]
 have t3 : ∀ i, (s &&& (s - 1)).testBit i = (decide (k < i) && s.testBit i) := by
  intro i
  rw [Nat.testBit_and, t1, t2]
  by_cases h : i < k
  ·simp [h]
  ·simp only [h, if_false]
   by_cases h2 : i = k
   ·subst h2; simp
   ·have e : i - k = (i - k - 1) + 1 := by omega
    rw [e, Nat.testBit_succ, Nat.testBit_succ]
    have d1 : (2 * m + 1) / 2 = m := by omega
    have d2 : 2 * m / 2 = m := by omega
    have d3 : k < i := by omega
    simp [d1, d2, d3]
 have hr : List.range 32 = List.range k ++ k :: List.range' (k + 1) (31 - k) := by
  rw [List.range_eq_range', List.range_eq_range', show (32 : Nat) = k + (1 + (31 - k)) by omega, ← List.range'_append_1, Nat.zero_add, ← List.range'_append_1]
  simp
 unfold els
 rw [hr, List.filter_append, List.filter_append, List.filter_cons, List.filter_cons]
 have f1 : (List.range k).filter (fun p => s.testBit p) = [] := by
  rw [List.filter_eq_nil_iff]; intro a ha; rw [t1]; simp at ha; simp [ha]
 have f2 : (List.range k).filter (fun p => (s &&& (s - 1)).testBit p) = [] := by
  rw [List.filter_eq_nil_iff]; intro a ha; rw [t3]; simp at ha ⊢; omega
 have f3 : s.testBit k = true := by rw [t1]; simp
 have f4 : (s &&& (s - 1)).testBit k = false := by rw [t3]; simp
 rw [f1, f2, f3, f4]
 simp only [if_true, List.nil_append, Bool.false_eq_true, if_false]
 congr 1
 refine List.filter_congr fun a ha => ?_
 rw [t3]
 have : k < a := by have := List.mem_range'_1.1 ha; omega
 simp [this]
theorem els_step {s : Nat} (h0 : s ≠ 0) (h : s < 2 ^ 32) : els s = Lib.ctz 32 s :: els (s &&& (s - 1)) ∧ Lib.ctz 32 s < 32 := by
 obtain ⟨m, h1, h2⟩ := Lib.ctzFrom_spec 32 s (by omega) h
 have e : Lib.ctz 32 s = Lib.ctzFrom 32 s := by unfold Lib.ctz; rw [if_neg h0]
 rw [e]
 exact ⟨els_low h1 h2, h2⟩
theorem and_pred_lt {s : Nat} (h0 : s ≠ 0) : s &&& (s - 1) < s := by
 have : s &&& (s - 1) ≤ s - 1 := Nat.and_le_right
 omega

/-- all of some sets -/
def orL (l : List Nat) : Nat := l.foldl (· ||| ·) 0
theorem orL_snoc (l : List Nat) (s : Nat) : orL (l ++ [s]) = orL l ||| s := by simp [orL]
theorem orL_bit (l : List Nat) (i : Nat) : (orL l).testBit i = l.any fun s => s.testBit i := by
 have key : ∀ (l : List Nat) (a : Nat), (l.foldl (· ||| ·) a).testBit i = (a.testBit i || l.any fun s => s.testBit i) := by
  intro l
  induction l with
  | nil => simp
  | cons s l ih => intro a; rw [List.foldl_cons, ih, Nat.testBit_or, List.any_cons, Bool.or_assoc]
 unfold orL
 rw [key]
 simp
theorem orL_lt {l : List Nat} {n : Nat} (h : ∀ s ∈ l, s < 2 ^ n) : orL l < 2 ^ n := by
 refine lt_of_bits fun i hi => ?_
 rw [orL_bit, List.any_eq_false]
 intro s hs
 rw [bit_false (h s hs) hi]
 simp

/-- some are followed by others, too -/
def lnk (fo : Nat → Nat) (fr tt : Nat) : Nat → Nat := fun p => if fr.testBit p then fo p ||| tt else fo p
theorem lnk_bit (fo : Nat → Nat) (fr tt p q : Nat) : (lnk fo fr tt p).testBit q = ((fo p).testBit q || (fr.testBit p && tt.testBit q)) := by
 unfold lnk
 split
 ·rename_i h; rw [Nat.testBit_or, h, Bool.true_and]
 ·rename_i h
  have : fr.testBit p = false := by simpa using h
  rw [this, Bool.false_and, Bool.or_false]
theorem lnk_lt {fo : Nat → Nat} {fr tt n : Nat} (h : ∀ p, fo p < 2 ^ n) (ht : tt < 2 ^ n) (p : Nat) : lnk fo fr tt p < 2 ^ n := by
 unfold lnk
 split
 ·exact Nat.or_lt_two_pow (h p) ht
 ·exact h p

end Go.Proofs.YtnccgaanfjaimaaDoor

namespace Go.Proofs.YtnccgaanfjaimaaDoor
open Go.ChangeShapes Go.WideShapes Go.ChangeAt Go.RowKit
set_option linter.unusedVariables false
set_option linter.unusedSimpArgs false

/-- the library's table -/
def Tb (w : World) : Prop := TabAt 0 Lib.deBruijn32tab w
theorem Tb.low {w w' : World} (h : Tb w) (hk : w'.heap[0]? = w.heap[0]?) : Tb w' := fun j hj => (World.cell?_of_block hk).trans (h j hj)
theorem Tb.pos {w : World} (h : Tb w) : 0 < w.heap.size := World.block_lt_of_cell? _ _ (h 0 (by decide))
theorem Tb.below {B : Nat} {w w' : World} (h : Tb w) (hb : Below B w w') (hB : 0 < B) : Tb w' := h.low (hb.block 0 hB)

theorem tz_core (x k idx : Nat) (w : World) (hx0 : ((x : Int) == 0) = false)
  (key : bits BinOp.and IntKind.u32 (x : Int) (-(x : Int) % 4294967296) * 125613361 % 4294967296 / 134217728 = (idx : Int))
  (hi : idx < 32) (hk : k < 32) (hcell : w.cell? ⟨0, idx, none⟩ = some (.int .u8 k)) :
  Calls Tryd.prog 85 #[.int .u32 x] w fun e w' => e = .returned (.int .i64 k) ∧ w = w' := by
 go_enter Tryd.func85, Tryd.ntmps85
 go_wp2_with (simp only [key])
 go_ret
 exact ⟨rfl, rfl⟩
theorem tz_any {x : Nat} (h0 : x ≠ 0) (hx : x < 4294967296) {w : World} (hT : Tb w) :
  Calls Tryd.prog 85 #[.int .u32 x] w fun e w' => e = .returned (.int .i64 (Lib.ctz 32 x)) ∧ w = w' := by
 obtain ⟨hlow, hk⟩ := Lib.lowest_bit 32 x h0 hx
 obtain ⟨hi, htab⟩ := Lib.deBruijn32_at _ hk
 have hcell := hT _ hi
 rw [htab] at hcell
 exact tz_core x _ _ w (by simp; omega) (tz32_key x _ hx h0 hlow) hi hk hcell

theorem only_any (p : Nat) (hp : p < 32) (w : World) : Calls Tryd.prog 45 #[.int .i64 p] w fun e w' => e = .returned (.int .u32 ((2 ^ p : Nat) : Int)) ∧ w = w' := by
 have h32 : (2 : Nat) ^ p < 4294967296 := Nat.pow_lt_pow_right (by decide : 1 < 2) hp
 have he : (2 : Int) ^ p % 4294967296 = ((2 ^ p : Nat) : Int) := by
  rw [show (2 : Int) ^ p = ((2 ^ p : Nat) : Int) by simp]
  generalize (2 ^ p : Nat) = m at *
  omega
 have HE := Lib.hid he
 clear he h32
 go_enter Tryd.func45, Tryd.ntmps45
 go_wp2
 go_ret
 exact ⟨by rw [← HE.out]; rfl, rfl⟩

theorem rising_any (s : Int) (w : World) : Calls Tryd.prog 68 #[.int .u32 s] w fun e w' => e = .returned (.func (.func 84) #[] #[.pointer (some ⟨w.heap.size, 0, none⟩)]) ∧ w' = w.alloc (.cells #[.int .u32 s] 69) := by
 go_enter Tryd.func68, Tryd.ntmps68
 go_wp2
 go_ret
 exact ⟨rfl, rfl⟩

theorem u32_or (a b : Nat) (ha : a < 4294967296) (hb : b < 4294967296) : bits .or .u32 (a : Int) (b : Int) = ((a ||| b : Nat) : Int) := by
 have hx : a ||| b < 2 ^ 32 := Nat.or_lt_two_pow (by omega) (by omega)
 have h1 : (BitVec.ofInt 32 (a : Int)).toNat = a := by
  rw [BitVec.ofInt_natCast, BitVec.toNat_ofNat]; exact Nat.mod_eq_of_lt (by omega)
 have h2 : (BitVec.ofInt 32 (b : Int)).toNat = b := by
  rw [BitVec.ofInt_natCast, BitVec.toNat_ofNat]; exact Nat.mod_eq_of_lt (by omega)
 show IntKind.u32.wrap ((BitVec.ofInt 32 (a : Int) ||| BitVec.ofInt 32 (b : Int)).toNat : Int) = _
 rw [BitVec.toNat_or, h1, h2, wrap_u32']
 omega

/-- rounds keep the table -/
def KpT (A B : World) : Prop := Tb A → Tb B
theorem KpT.trans {A B C : World} (h : KpT A B) (k : KpT B C) : KpT A C := fun x => k (h x)
theorem KpT.put {W : World} {l : Nat} {o : Obj} (hl : 0 < l) : KpT W (W.putObj l o) := fun h => h.low (World.putObj_heap_other (by omega))
def encN (p : Nat) : Array Value := #[.int .i64 p]

set_option maxRecDepth 100000 in
set_option maxHeartbeats 4000000 in
theorem rising_seq {w0 : World} (n : Nat) (hn : 2 ≤ n) {s Bx : Nat} (hB : w0.heap[Bx]? = some (.cells #[.int .u32 s] 69 (0, 0))) (hT : Tb w0) (hs : s < 2 ^ 32) :
  SeqX Fence.wide n Tryd.prog 84 #[.pointer (some ⟨Bx, 0, none⟩)] encN KpT (els s) w0 := by
 intro l J Jx W hW hJ hJx hY h0
 have HY := Lib.hid hY
 have hb := cell_of_row _ _ 0 _ 69 (0, 0) ((hW.block _ (Array.getElem?_eq_some_iff.1 hB).1).trans hB)
 simp only [List.getElem?_toArray, List.getElem?_cons_zero] at hb
 have HT := Lib.hid (show Tb W from hT.below hW hT.pos)
 have HJ0 := Lib.hid h0
 have HS := Lib.hid hs
 clear hY hJ h0 hJx hB hT hW hs
 refine callsIn_of_wp Tryd.func84 rfl trivial ?_ rfl
 simp only [Tryd.ntmps84, List.size_toArray, List.length_cons, List.length_nil, Nat.reduceAdd, Nat.reduceSub, Array.replicate_succ, Array.replicate_zero, List.push_toArray, List.append_toArray, List.nil_append, List.cons_append]
 refine wpIn_wide.2 ?_
 go_wp2_with fail
 go_loopg [3] s (fun k v wr => ∃ (r : Nat) (done : List Nat), v = .int .u32 r ∧ r < 2 ^ 32 ∧ done ++ els r = els s ∧ J done wr ∧ Tb wr ∧ W.heap.size ≤ wr.heap.size ∧ k = r)
 case atStart => exact ⟨s, [], rfl, HS.out, rfl, HJ0.out, HT.out, Nat.le_refl _, rfl⟩
 case round =>
  obtain ⟨r, done, rfl, hr, hdone, hj, ht, hwz, rfl⟩ := hrel
  have hr : gk < 2 ^ 32 := hr
  by_cases h0 : gk = 0
  ·subst h0
   rw [els_zero, List.append_nil] at hdone
   subst hdone
   have HJE := Lib.hid hj
   clear hr hj ht
   go_wp2_with fail
   go_end0
   exact ⟨⟨_, rfl⟩, .inl HJE.out⟩
  ·obtain ⟨he, hc⟩ := els_step h0 hr
   have htz := tz_any h0 hr ht
   have hpfx : done ++ [Lib.ctz 32 gk] <+: els s := ⟨els (gk &&& (gk - 1)), by rw [← hdone, he, List.append_assoc]; rfl⟩
   have hdn : (done ++ [Lib.ctz 32 gk]) ++ els (gk &&& (gk - 1)) = els s := by rw [← hdone, he, List.append_assoc]; rfl
   have hlt := and_pred_lt h0
   obtain ⟨fn, tmps, assign, body, hy, hR⟩ := HY.out done (Lib.ctz 32 gk) wr hpfx hwz hj
   simp only [encN] at hy
   have HR := Lib.hid hR
   have HZ := Lib.hid htz
   have X1 := Lib.hid (And.intro hpfx (And.intro hdn (And.intro hlt (And.intro ht hwz))))
   have hk0 : (gk : Int) ≠ 0 := by omega
   have HN := Lib.hid hr
   generalize Lib.ctz 32 gk = c at *
   clear hr hdone hj ht hwz he hpfx hdn hlt hR htz h0
   go_upto_region 3 with (fail)
   refine wpIn_wide.1 (?_ : Code.wpIn Fence.wide n Tryd.prog _ _ _ _)
   gi_wp2
   refine ⟨trivial, fun h => (by cases h), ?_⟩
   refine ((callsIn_wide (n := n - 1)).2 HZ.out).mono ?_
   rintro e w1 ⟨rfl, rfl⟩
   gi_wp2
   refine ⟨fun h => (by cases h), ?_⟩
   refine HR.out.mono ?_
   rintro e W4 ⟨hkf, (⟨rfl, hJ4, hk4⟩ | ⟨rfl, hJx4⟩)⟩
   ·have X4 := Lib.hid (And.intro hkf (And.intro hJ4 hk4))
    clear hkf hJ4 hk4
    gi_wp2
    have hsub : IntKind.u32.wrap ((gk : Int) - 1) = ((gk - 1 : Nat) : Int) := by have := HN.out; rw [wrap_u32']; omega
    have hand := bits_and_u32_nat gk (gk - 1) (by have := HN.out; omega) (by have := HN.out; omega)
    go_wp2_with fail
    go_roundg (gk &&& (gk - 1))
    case measure => exact X1.out.2.2.1
    case rel => exact ⟨gk &&& (gk - 1), done ++ [c], by rw [← hand, ← hsub], by have h1 := X1.out.2.2.1; have h2 := HN.out; omega, X1.out.2.1, X4.out.2.1, X4.out.2.2 X1.out.2.2.2.1, Nat.le_trans X1.out.2.2.2.2 X4.out.1.size, rfl⟩
   ·have X4 := Lib.hid hJx4
    clear hkf hJx4
    gi_wp2
    go_wp2_with fail
    refine bodyPost_ret (results_none rfl _ _ _) rfl ?_
    exact ⟨⟨_, rfl⟩, .inr ⟨_, X1.out.1, X4.out⟩⟩
theorem info3 : (Tryd.prog.info? 3).map (fun i => (i.zero, i.size, i.bytes)) = some (some (.int .i64 0), 1, 8) := by kernel_rfl
theorem own_low {w : World} {B B' e sz n : Nat} {v : Value} {xs : List Value} (h : w.ownsRow B e sz v n xs) (hB : B' ≤ B) : w.ownsRow B' e sz v n xs := by
 refine ⟨h.1, ?_⟩
 rcases h.2 with hn | ⟨g, cap, cur, e1, hbg, rest⟩
 ·exact .inl hn
 ·exact .inr ⟨g, cap, cur, e1, Nat.le_trans hB hbg, rest⟩
/-- numbers as cells -/
def nums (l : List Nat) : List Value := l.map fun p : Nat => Value.int .i64 (p : Int)
theorem nums_snoc (l : List Nat) (p : Nat) : nums (l ++ [p]) = nums l ++ [.int .i64 (p : Int)] := by simp [nums]

attribute [local go_sem] Oper.semAt_some

set_option maxRecDepth 100000 in
set_option maxHeartbeats 4000000 in
theorem collect87_any {w : World} {s Bx : Nat} (hB : w.heap[Bx]? = some (.cells #[.int .u32 s] 69 (0, 0))) (hT : Tb w) (hs : s < 2 ^ 32) :
  Calls Tryd.prog 87 #[.slice none 0 0, .func (.func 84) #[] #[.pointer (some ⟨Bx, 0, none⟩)]] w fun e w' => ∃ v, e = .returned v ∧ w'.ownsRow w.heap.size 3 1 v (els s).length (nums (els s)) ∧ Below w.heap.size w w' := by
 have hl := (Array.getElem?_eq_some_iff.1 hB).1
 have hb1 : Below w.heap.size w (w.alloc (.cells #[.slice none 0 0] 37)) := (Below.refl _ w).alloc (Nat.le_refl _) _
 have hseq := rising_seq 11 (by decide) ((hb1.block _ hl).trans hB) (hT.below hb1 hT.pos) hs
 have HSEQ := Lib.hid hseq
 have hlen : (els s).length ≤ 32 := els_len s
 have hpos := hT.pos
 have HT1 := Lib.hid (hT.below hb1 hpos)
 clear hseq hT hB hs
 refine (callsIn_wide (n := 12)).1 ?_
 refine callsIn_of_wp_marks Tryd.func87 rfl trivial ?_ rfl
 simp only [Tryd.ntmps87, List.size_toArray, List.length_cons, List.length_nil, Nat.reduceAdd, Nat.reduceSub, Array.replicate_succ, Array.replicate_zero, List.push_toArray, List.append_toArray, List.nil_append, List.cons_append]
 refine wpIn_wide.2 ?_
 go_wp2_with fail
 have hbk : Boxed (w.alloc (.cells #[.slice none 0 0] 37)) w.heap.size 37 (.slice none 0 0) := Boxed.new w _ _
 generalize hW1 : w.alloc (.cells #[.slice none 0 0] 37) = w1 at *
 have hz1 : w1.heap.size = w.heap.size + 1 := by rw [← hW1]; simp
 obtain ⟨i0, hi, hz0, hzz, hz2⟩ := info_parts info3
 refine wpIn_wide.1 (?_ : Code.wpIn Fence.wide 12 Tryd.prog _ _ _ _)
 refine wpIn_rangeFunc_X rfl (by omega) (gf := 84) (lb := #[.pointer (some ⟨Bx, 0, none⟩)]) rfl trivial (enters_of Tryd.func84 (by kernel_rfl) rfl)
  HSEQ.out KpT.trans (fun W' l' o o' hlw hl' ho _ => KpT.put (by omega)) (Below.refl _ _) (fun _ => rfl)
  (fun pre W' => (∃ v, Boxed W' w.heap.size 37 v ∧ W'.ownsRow w.heap.size 3 1 v pre.length (nums pre)) ∧ Below w.heap.size w W' ∧ w1.heap.size ≤ W'.heap.size ∧ Tb W')
  (fun _ _ _ => False)
  ?hI (fun c s X Y h => h.elim)
  ⟨⟨_, hbk, World.ownsRow_nil w1 w.heap.size 3 1⟩, hb1, Nat.le_refl _, HT1.out⟩
  (fun p a' W' => a' = { tmps := #[.slice none 0 0, .func (.func 84) #[] #[.pointer (some ⟨Bx, 0, none⟩)], .pointer (some ⟨w.heap.size, 0, none⟩), undef, .slice none 0 0, .int .i64 p, .func (.func 84) #[] #[.pointer (some ⟨Bx, 0, none⟩)], .int .i64 p, undef, undef, undef, undef, undef], defers := [] })
  (fun _ _ _ _ _ h _ => h) ?assign ?body ?done (fun _ _ _ _ _ _ h _ => h.elim)
 case hI =>
  rintro pre X Y ⟨⟨v, h1, h2⟩, h3, h4, h5⟩ hr
  exact ⟨⟨v, hr.cells h1 (by decide), hr.row h2 (by decide)⟩, h3.trans ⟨hr.os, hr.tape, hr.output, hr.size, fun k hk => hr.block k (Nat.lt_of_lt_of_le hk h3.size) (.inl (by omega))⟩, Nat.le_trans h4 hr.size, h5.low (hr.block 0 h5.pos (.inl (by omega)))⟩
 case assign =>
  intro l1 pre p W' K hI hpx hK
  have HK := Lib.hid hK
  have HI' := Lib.hid hI
  unfold encN
  clear hK hI
  gi_wp2
  exact HK.out _ _ (KeepsFrom.refl _ _) (fun h => h) HI'.out rfl
 case body =>
  rintro l1 pre p a' W hwl hloop hpx ⟨⟨v, hv, hrow⟩, hB, hsz, ht⟩ rfl
  have hc := hv.cell
  have hpl : pre.length < 32 := by have := hpx.length_le; simp at this; omega
  gi_wp2_with (gi_at_builtin; refine wpListIn_append_own _ rfl _ _ 37 rfl w.heap.size 3 i0 (.int .i64 0) 1 8 Tryd.underlying37 hi hz0 hzz hz2 rfl (by decide) _ _ _ rfl (hrow.alloc _) ⟨W.heap.size, 0, none⟩ 1 1 [.int .i64 p] rfl rfl (cell_one_new _ _ _) (by simp [Value.oneCell']) (by unfold maxLen; omega) (by omega) (by simp; omega) ?_; intro v' w2 hown' hgrow _; obtain ⟨g', cap', rfl⟩ := ownsRow_succ hown'; obtain ⟨hv1, hv2, hown2, hk2, hb2⟩ := hv.appended (by decide) hrow (by omega) (Nat.le_refl _) hown' hgrow; have hc1 := hv1.cell; have hf1 := hv1.frozen)
  refine ⟨hk2.from _, fun _ => ht.below hb2 (by omega), ⟨_, hv2, ?_⟩, hB.trans hb2, Nat.le_trans hsz hb2.size, ht.below hb2 (by omega)⟩
  rw [nums_snoc, List.length_append]
  exact hown2
 case done =>
  rintro D W hD ⟨⟨v, hv, hrow⟩, hB, hsz, ht⟩ hK
  obtain ⟨A, q, rfl⟩ := row_form hrow
  have hc := hv.cell
  go_wp2_with fail
  refine ⟨by simp, .inl ⟨_, _, rfl, run_takeDeferred hK, ?_⟩⟩
  refine ⟨.slice A (els s).length q, by simp [results, Tryd.results87, go_sem], .slice A (els s).length q, rfl, ownsRow_putObj hrow (.deferred none) hK rfl, belowK w hB (by omega)⟩
theorem collect_any {w : World} {s Bx : Nat} (hB : w.heap[Bx]? = some (.cells #[.int .u32 s] 69 (0, 0))) (hT : Tb w) (hs : s < 2 ^ 32) :
  Calls Tryd.prog 73 #[.func (.func 84) #[] #[.pointer (some ⟨Bx, 0, none⟩)]] w fun e w' => ∃ v, e = .returned v ∧ w'.ownsRow w.heap.size 3 1 v (els s).length (nums (els s)) ∧ Below w.heap.size w w' := by
 have H := Lib.hid (collect87_any hB hT hs)
 clear hB hT hs
 go_enter Tryd.func73, Tryd.ntmps73
 go_wp2_with (go_at_call 87; refine H.out.mono ?_; rintro e w1 ⟨v, rfl, hr, hb⟩; have HR := Lib.hid (And.intro hr hb); clear hr hb)
 go_ret
 exact ⟨_, rfl, HR.out.1, HR.out.2⟩
/-- a set's list -/
def ListR (s : Nat) (w : World) (e : Ending) (w' : World) : Prop := ∃ v, e = .returned v ∧ w'.ownsRow w.heap.size 3 1 v (els s).length (nums (els s)) ∧ Below w.heap.size w w'
theorem list_any (s : Nat) {w : World} (hT : Tb w) (hs : s < 2 ^ 32) : Calls Tryd.prog 53 #[.int .u32 s] w (ListR s w) := by
 unfold ListR
 have H := Lib.hid (collect_any (w := w.alloc (.cells #[.int .u32 s] 69)) (Bx := w.heap.size) (s := s) (World.alloc_heap_new w _) (hT.below ((Below.refl _ w).alloc (Nat.le_refl _) _) hT.pos) hs)
 have HB := Lib.hid ((Below.refl _ w).alloc (Nat.le_refl _) (.cells #[.int .u32 s] 69))
 clear hT hs
 go_enter Tryd.func53, Tryd.ntmps53
 go_wp2_with (first | (go_at_call 68; refine (rising_any s w).mono ?_; rintro e w1 ⟨rfl, rfl⟩) | (go_at_call 73; refine H.out.mono ?_; rintro e w1 ⟨v, rfl, hr, hb⟩; have HR := Lib.hid (And.intro hr hb); clear hr hb))
 go_ret
 have h1 := HR.out.1
 have h2 := HR.out.2
 rw [World.size_alloc] at h1 h2
 exact ⟨_, rfl, own_low h1 (by omega), HB.out.trans (h2.mono (by omega))⟩
end Go.Proofs.YtnccgaanfjaimaaDoor

namespace Go.Proofs.YtnccgaanfjaimaaDoor
open Go.ChangeShapes Go.WideShapes Go.ChangeAt Go.RowKit Go.Deep Go.Joins
set_option linter.unusedVariables false

def laidL : List (String × DataW Unit) := [("math/bits.deBruijn32tab", Rows.laid_math_bits_deBruijn32tab)]
theorem gTab : Tryd.prog.globalNamed "math/bits.deBruijn32tab" = some 0 := by kernel_rfl
theorem tTab : (Tryd.prog.globals[0]?).map (·.type) = some 130 := by kernel_rfl
theorem cells5' : Tryd.prog.cellsOf 5 = 1 := by kernel_rfl
theorem cells130 : Tryd.prog.cellsOf 130 = 32 := by kernel_rfl
theorem tab_data : (Rows.laid_math_bits_deBruijn32tab : DataW Unit) = Lib.tabData .u8 (Lib.deBruijn32tab.map fun k : Nat => (k : Int)) := by rfl

/-- the door's own heap meets the condition -/
theorem door_met (os : Os) (args : Array Value) : laidMetH Tryd.prog laidL ((World.doorLaid Tryd.prog 400 os).forCall (fun _ _ => 0) ⟨#[], args, []⟩).memory :=
 laidMetH_of_parts3 (fuel := 8) (laidMet_of_run' 8 (by kernel_rfl) (by kernel_rfl)) (by kernel_rfl) (by kernel_rfl)

theorem tb_of {W : World} (h : laidMetH Tryd.prog laidL W) : Tb W := by
 rw [MakeChecks.laidMetH_plain _ _ _ (by kernel_rfl)] at h
 have h3 : laidMet Tryd.prog [("math/bits.deBruijn32tab", Rows.laid_math_bits_deBruijn32tab)] W := h
 rw [tab_data] at h3
 have ht := Lib.tabIs_of_head gTab tTab Tryd.underlying130 Tryd.underlying5 cells5' cells130 h3
 intro j hj
 have hc := Lib.TabIs.cell ht gTab j (by rw [List.length_map]; exact hj)
 rw [hc]
 simp [List.getD, hj]
end Go.Proofs.YtnccgaanfjaimaaDoor
