/- The kids of the first spot, as a function to range over. -/
import Derived.Test.YtnohnkhhkeikoaaQ
namespace Go.Proofs.Ytnohnkhhkeikoaa
open Go.ChangeShapes Go.WideShapes Go.ChangeAt Go.RowKit
set_option linter.unusedVariables false

attribute [local go_sem] Oper.semAt_some

/-- a kid, where its spots begin, the room from there on -/
structure Kd where
  x : X
  o : Nat
  c : Nat
def kidsAt : List X → Nat → Nat → List Kd
  | [], _, _ => []
  | x :: xs, o, c => ⟨x, o, c⟩ :: kidsAt xs (o + x.sz) (c - x.sz)
theorem kidsAt_snoc (x : X) : ∀ (ks : List X) (o c : Nat), kidsAt (ks ++ [x]) o c = kidsAt ks o c ++ [⟨x, o + szL ks, c - szL ks⟩]
  | [], o, c => by simp [kidsAt, szL_nil]
  | y :: ys, o, c => by
    rw [List.cons_append, kidsAt, kidsAt, kidsAt_snoc x ys, szL_cons, List.cons_append]
    simp only [Nat.add_assoc, Nat.sub_sub]
theorem kidsAt_app (ys : List X) : ∀ (ks : List X) (o c : Nat), kidsAt (ks ++ ys) o c = kidsAt ks o c ++ kidsAt ys (o + szL ks) (c - szL ks)
  | [], o, c => by simp [kidsAt, szL_nil]
  | y :: ks, o, c => by
    rw [List.cons_append, kidsAt, kidsAt, kidsAt_app ys ks, szL_cons, List.cons_append]
    simp only [Nat.add_assoc, Nat.sub_sub]
def Kd.v (g : Nat) (k : Kd) : Value := .slice (some ⟨g, k.o * 5, none⟩) k.x.sz k.c
def encK (g : Nat) (k : Kd) : Array Value := #[k.v g]

theorem flatS_inj : ∀ {L L' : List Sp}, L.length = L'.length → flatS L = flatS L' → L = L'
  | [], [], _, _ => rfl
  | x :: l, y :: l', hl, h => by
    have e : ∀ (z : Sp) (l : List Sp), flatS (z :: l) = .int .i64 z.kind :: .string z.lab :: .int .i64 z.size :: .bool z.emp :: .bool z.ends :: flatS l := fun z l => by simp [flatS, Sp.cells]
    rw [e, e] at h
    simp only [List.cons.injEq, Value.int.injEq, Value.string.injEq, Value.bool.injEq, true_and] at h
    obtain ⟨h1, h2, h3, h4, h5, h6⟩ := h
    obtain ⟨a1, a2, a3, a4, a5⟩ := x
    obtain ⟨b1, b2, b3, b4, b5⟩ := y
    simp only at h1 h2 h3 h4 h5
    have h3' : a3 = b3 := by omega
    subst h1 h2 h3' h4 h5
    rw [flatS_inj (by simpa using hl) h6]
theorem SpM.one {W : World} {g : Nat} {L L' : List Sp} (h : SpM W g L) (h' : SpM W g L') (hl : L.length = L'.length) : L = L' := by
  obtain ⟨cur, h1, h2⟩ := h
  obtain ⟨cur', h3, h4⟩ := h'
  rw [h1] at h3
  injection h3 with h3
  injection h3 with h3 _ _
  subst h3
  refine flatS_inj hl (List.ext_getElem? fun j => ?_)
  by_cases hj : j < (flatS L).length
  · have hj' : j < (flatS L').length := by rw [flatS_len] at hj ⊢; omega
    have a := h2 j _ (List.getElem?_eq_getElem hj)
    have b := h4 j _ (List.getElem?_eq_getElem hj')
    rw [List.getElem?_eq_getElem hj, List.getElem?_eq_getElem hj', ← a, ← b]
  · rw [List.getElem?_eq_none (by omega), List.getElem?_eq_none (by rw [flatS_len] at hj ⊢; omega)]

/-- the sizes of the n spots stay -/
structure KpG (g n : Nat) (A B : World) : Prop where
  size : A.heap.size ≤ B.heap.size
  sp : ∀ L, L.length = n → SpM A g L → ∃ L', SpM B g L' ∧ L'.map Sp.size = L.map Sp.size
theorem KpG.trans {g n : Nat} {A B C : World} (h : KpG g n A B) (k : KpG g n B C) : KpG g n A C := ⟨Nat.le_trans h.size k.size, fun L hn hL => by
  obtain ⟨L1, h1, e1⟩ := h.sp L hn hL
  obtain ⟨L2, h2, e2⟩ := k.sp L1 (by have := congrArg List.length e1; simp at this; omega) h1
  exact ⟨L2, h2, e2.trans e1⟩⟩
theorem KpG.refl (g n : Nat) (A : World) : KpG g n A A := ⟨Nat.le_refl _, fun L _ hL => ⟨L, hL, rfl⟩⟩
theorem KpG.of_below {g n : Nat} {A B : World} (h : Below A.heap.size A B) : KpG g n A B := ⟨h.size, fun L _ hL => ⟨L, hL.bel h, rfl⟩⟩
theorem KpG.putObj {g n : Nat} (W : World) (l : Nat) (o o' : Obj) (hl : W.heap[l]? = some o) (ho : o.isCells = false) : KpG g n W (W.putObj l o') := by
  refine ⟨by simp, fun L _ hL => ⟨L, hL.block (World.putObj_heap_other fun e => ?_), rfl⟩⟩
  subst e
  obtain ⟨cur, h, _⟩ := hL
  rw [hl] at h
  cases h
  cases ho
theorem KpG.set {g n : Nat} {W : World} {a : Addr} (v : Value) (h : a.block ≠ g) : KpG g n W (W.setCell a v) := ⟨by simp [World.setCell], fun L _ hL => ⟨L, hL.block (Below.heap_setCell _ _ _ _ (fun e => h e.symm)), rfl⟩⟩
theorem KpG.of_sp {g : Nat} {A B : World} {L L' : List Sp} (hs : A.heap.size ≤ B.heap.size) (h : SpM A g L) (h' : SpM B g L') (he : L'.map Sp.size = L.map Sp.size) {n : Nat} (hn : L.length = n) : KpG g n A B := ⟨hs, fun M hM hM' => by
  have := h.one hM' (by omega)
  subst this
  exact ⟨L', h', he⟩⟩

theorem kidsOf_any (A : Option Addr) (n c : Nat) (w : World) : Calls Try.prog 59 #[.slice A n c] w fun e w' => e = .returned (.func (.func 82) #[] #[.pointer (some ⟨w.heap.size, 0, none⟩)]) ∧ w' = w.alloc (.cells #[.slice A n c] 52) := by
  go_enter Try.func59, Try.ntmps59
  go_wp2_with fail
  go_ret
  exact ⟨rfl, rfl⟩

theorem sizes_at {L L' : List Sp} (h : L'.map Sp.size = L.map Sp.size) {i : Nat} (hi : i < L.length) : ∃ hi' : i < L'.length, L'[i].size = L[i].size := by
  have hl : L'.length = L.length := by have := congrArg List.length h; simpa using this
  refine ⟨by omega, ?_⟩
  have := congrArg (fun l => l[i]?) h
  simpa [hi, show i < L'.length by omega] using this

set_option maxRecDepth 100000 in
set_option maxHeartbeats 8000000 in
theorem kids_seq {w0 : World} (n : Nat) (hn : 2 ≤ n) {g Bk c : Nat} {P Q : List Sp} {s0 : Sp} {ks : List X} {fl : List Bool} (hB : Boxed w0 Bk 52 (.slice (some ⟨g, P.length * 5, none⟩) (1 + szL ks) c)) (hc : 1 + szL ks ≤ c) (hks : ks ≠ [])
    (hfl : fl.length = szL ks) (hsp : SpM w0 g (P ++ s0 :: (SLs ks fl ++ Q))) (hsz : P.length + szL ks ≤ 100000) :
    SeqX Fence.wide n Try.prog 82 #[.pointer (some ⟨Bk, 0, none⟩)] (encK g) (KpG g (P ++ s0 :: (SLs ks fl ++ Q)).length) (kidsAt ks (P.length + 1) (c - 1)) w0 := by
  intro l J Jx W hW hJ hJx hY h0
  have HY := Lib.hid hY
  have HJ := Lib.hid hJ
  have hbk : Boxed W Bk 52 _ := Boxed.bel hB hW
  have b0 := hbk.cell
  have hl := hbk.lt
  have HSP := Lib.hid (hsp.bel hW)
  have HJ0 := Lib.hid h0
  have hszs : ∀ (pre : List X) (x : X) (rest : List X), ks = pre ++ x :: rest → ∃ h : P.length + 1 + szL pre < (P ++ s0 :: (SLs ks fl ++ Q)).length, (P ++ s0 :: (SLs ks fl ++ Q))[P.length + 1 + szL pre].size = x.sz := by
    rintro pre x rest rfl
    have e1 : fl = fl.take (szL pre) ++ fl.drop (szL pre) := (List.take_append_drop _ _).symm
    rw [szL_app, szL_cons] at hfl
    have ht : (fl.take (szL pre)).length = szL pre := by rw [List.length_take]; omega
    have hd : (fl.drop (szL pre)).length = x.sz + szL rest := by rw [List.length_drop]; omega
    have hp := x.sz_pos
    have e2 : SLs (pre ++ x :: rest) fl = SLs pre (fl.take (szL pre)) ++ (SL x ((fl.drop (szL pre)).take x.sz) ++ SLs rest ((fl.drop (szL pre)).drop x.sz)) := by
      conv => lhs; rw [e1]
      rw [SLs_app _ _ _ _ ht, SLs_cons _ _ _ (by omega)]
    obtain ⟨e, kf, hk⟩ : ∃ e kf, (fl.drop (szL pre)).take x.sz = e :: kf := List.exists_cons_of_length_pos (by rw [List.length_take]; omega)
    have hl1 : (SLs pre (fl.take (szL pre))).length = szL pre := SLs_len ht
    have e3 : P ++ s0 :: (SLs (pre ++ x :: rest) fl ++ Q) = (P ++ s0 :: SLs pre (fl.take (szL pre))) ++ spX e x :: (SLs x.kids kf ++ SLs rest ((fl.drop (szL pre)).drop x.sz) ++ Q) := by
      rw [e2, hk, SL_cons]; simp
    have hl2 : (P ++ s0 :: SLs pre (fl.take (szL pre))).length = P.length + 1 + szL pre := by simp [hl1]; omega
    have e4 : ∀ (M : List Sp) (hM : M = (P ++ s0 :: SLs pre (fl.take (szL pre))) ++ spX e x :: (SLs x.kids kf ++ SLs rest ((fl.drop (szL pre)).drop x.sz) ++ Q)), ∃ h : P.length + 1 + szL pre < M.length, M[P.length + 1 + szL pre].size = x.sz := by
      rintro M rfl
      refine ⟨by rw [List.length_append, hl2]; simp, ?_⟩
      rw [List.getElem_append_right (by omega)]
      simp [hl2, spX]
    exact e4 _ e3
  have HSZ := Lib.hid hszs
  clear hY hJ h0 hJx hB hsp hW hbk hszs
  refine callsIn_of_wp Try.func82 rfl trivial ?_ rfl
  simp only [Try.ntmps82, List.size_toArray, List.length_cons, List.length_nil, Nat.reduceAdd, Nat.reduceSub, Array.replicate_succ, Array.replicate_zero, List.push_toArray, List.append_toArray, List.nil_append, List.cons_append]
  refine wpIn_wide.2 ?_
  have i1 : (1 : Int) ≤ ((1 + szL ks : Nat) : Int) := by omega
  have hc1 : ¬ c = 1 := by
    obtain ⟨x, xs, rfl⟩ := List.exists_cons_of_ne_nil hks
    have := x.sz_pos
    rw [szL_cons] at hc
    omega
  clear hks
  go_wp2_with fail
  clear i1
  have hoff := Lib.hid (show (P.length * 5 + 5) = (P.length + 1 + szL []) * 5 by rw [szL_nil]; omega)
  go_loopg [3] (ks.length) (fun k v wr => ∃ (pre rest : List X) (A' : Option Addr) (c' : Nat), v = .slice A' (szL rest) c' ∧ pre ++ rest = ks ∧ k = rest.length ∧ szL rest ≤ c' ∧ c' = c - 1 - szL pre ∧ (rest ≠ [] → A' = some ⟨g, (P.length + 1 + szL pre) * 5, none⟩) ∧ (∃ L', SpM wr g L' ∧ L'.map Sp.size = (P ++ s0 :: (SLs ks fl ++ Q)).map Sp.size) ∧ J (kidsAt pre (P.length + 1) (c - 1)) wr ∧ W.heap.size ≤ wr.heap.size)
  case atStart => exact ⟨[], ks, _, _, rfl, rfl, rfl, by omega, by rw [szL_nil]; omega, fun _ => by rw [hoff.out], ⟨_, HSP.out, rfl⟩, HJ0.out, Nat.le_refl _⟩
  case round =>
    obtain ⟨pre, rest, A', c', rfl, hpr, rfl, hrc, hcc, hA', ⟨L', hL', hLs⟩, hj, hwz⟩ := hrel
    cases rest with
    | nil =>
      obtain rfl : pre = ks := by simpa using hpr
      have HJE := Lib.hid hj
      rw [szL_nil]
      clear hL' hLs hj hA' hrc hcc
      go_wp2_with fail
      go_end0
      exact ⟨⟨_, rfl⟩, .inl HJE.out⟩
    | cons x rest =>
      obtain rfl := hA' (by simp)
      obtain ⟨hi0, hs0⟩ := HSZ.out pre x rest hpr.symm
      obtain ⟨hi1, hs1⟩ := sizes_at hLs hi0
      rw [hs0] at hs1
      obtain ⟨-, -, z2, -, -⟩ := hL'.at5 hi1
      rw [hs1] at z2
      have hp := x.sz_pos
      rw [szL_cons] at hrc ⊢
      have j0 : (0 : Int) < ((x.sz + szL rest : Nat) : Int) := by omega
      have j1 : (0 : Int) ≤ (x.sz : Int) := by omega
      have j2 : (x.sz : Int) ≤ (c' : Int) := by omega
      have j3 : (x.sz : Int) ≤ ((x.sz + szL rest : Nat) : Int) := by omega
      have j4 : ¬ c' = 0 := by omega
      have hkd : kidsAt (pre ++ [x]) (P.length + 1) (c - 1) = kidsAt pre (P.length + 1) (c - 1) ++ [⟨x, P.length + 1 + szL pre, c'⟩] := by rw [kidsAt_snoc, hcc]
      have hpfx : kidsAt pre (P.length + 1) (c - 1) ++ [⟨x, P.length + 1 + szL pre, c'⟩] <+: kidsAt ks (P.length + 1) (c - 1) := by
        rw [← hkd, show ks = (pre ++ [x]) ++ rest by rw [← hpr]; simp]
        exact ⟨_, (kidsAt_app rest (pre ++ [x]) _ _).symm⟩
      obtain ⟨fn, tmps, assign, body, hy, hR⟩ := HY.out _ ⟨x, P.length + 1 + szL pre, c'⟩ wr hpfx hwz hj
      simp only [encK, Kd.v] at hy
      have HL := Lib.hid (And.intro hL' hLs)
      have HR := Lib.hid hR
      have HX := Lib.hid (And.intro hpr (And.intro hrc (And.intro (show c' = c - 1 - szL pre from hcc) (And.intro hkd (And.intro hwz hpfx)))))
      clear hL' hLs hj hA' hR hpr hrc hkd hpfx hs0 hs1
      generalize hoo : (P.length + 1 + szL pre) * 5 = oo at *
      have HO := Lib.hid hoo
      clear hoo hcc
      go_upto_region 3 with (fail)
      refine wpIn_wide.1 (?_ : Code.wpIn Fence.wide n Try.prog _ _ _ _)
      gi_wp2
      refine ⟨fun h => (by cases h), ?_⟩
      refine HR.out.mono ?_
      rintro e W4 ⟨hkf, (⟨rfl, hJ4, hk4⟩ | ⟨rfl, hJx4⟩)⟩
      · obtain ⟨L4, hL4, hs4⟩ := hk4.sp _ (by have := congrArg List.length HL.out.2; simpa using this) HL.out.1
        have hs5 := hs4.trans HL.out.2
        obtain ⟨hi2, hs2⟩ := sizes_at hs5 hi0
        obtain ⟨-, -, z2', -, -⟩ := hL4.at5 hi2
        obtain ⟨hi0', hs0'⟩ := HSZ.out pre x rest HX.out.1.symm
        rw [hs2, hs0', HO.out] at z2'
        have X4 := Lib.hid (And.intro hkf (And.intro hJ4 (And.intro hL4 hs5)))
        clear hkf hJ4 hk4 hL4 hs4 hs5 z2 hy
        gi_wp2
        by_cases hcs : c' = x.sz
        · go_wp2_with fail
          go_roundg rest.length
          case measure => simp
          case rel =>
            obtain ⟨hpr, hrc, hcc, hkd, hwz, hpfx⟩ := HX.out
            obtain ⟨hkf, hJ4, hL4, hs5⟩ := X4.out
            have hr0 : rest = [] := by
              cases rest with
              | nil => rfl
              | cons y ys => rw [szL_cons] at hrc; have := y.sz_pos; omega
            refine ⟨pre ++ [x], rest, some ⟨g, oo, none⟩, 0, rfl, by rw [← hpr]; simp, rfl, ?_, ?_, fun h => absurd hr0 h, ⟨_, hL4, hs5⟩, by rw [hkd]; exact hJ4, Nat.le_trans hwz hkf.size⟩
            · rw [hr0, szL_nil]; exact Nat.zero_le _
            · rw [szL_app, szL_cons, szL_nil]; omega
        · go_wp2_with fail
          go_roundg rest.length
          case measure => simp
          case rel =>
            obtain ⟨hpr, hrc, hcc, hkd, hwz, hpfx⟩ := HX.out
            obtain ⟨hkf, hJ4, hL4, hs5⟩ := X4.out
            refine ⟨pre ++ [x], rest, _, _, rfl, by rw [← hpr]; simp, rfl, by omega, ?_, fun h => ?_, ⟨_, hL4, hs5⟩, by rw [hkd]; exact hJ4, Nat.le_trans hwz hkf.size⟩
            · rw [szL_app, szL_cons, szL_nil]; omega
            · rw [szL_app, szL_cons, szL_nil, ← HO.out]
              congr 2
              omega
      · have X4 := Lib.hid hJx4
        clear hkf hJx4
        gi_wp2
        go_wp2_with fail
        refine bodyPost_ret (results_none rfl _ _ _) rfl ?_
        exact ⟨⟨_, rfl⟩, .inr ⟨_, HX.out.2.2.2.2.2, X4.out⟩⟩
end Go.Proofs.Ytnohnkhhkeikoaa
