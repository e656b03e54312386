/- stepRow: over a label with kids of which each takes what comes behind those ahead. -/
import Derived.Test.YtnohnkhhkeikoaaR
namespace Go.Proofs.Ytnohnkhhkeikoaa
open Go.ChangeShapes Go.WideShapes Go.ChangeAt Go.RowKit
set_option linter.unusedVariables false

attribute [local go_sem] Oper.semAt_some

def StepR (g : Nat) (P Q : List Sp) (x : X) (fl' : List Bool) (w : World) (e : Ending) (w' : World) : Prop := e = .returned (.bool (hd fl')) ∧ SpM w' g (P ++ (SL x fl' ++ Q)) ∧ Ch g w w'
/-- a step over a label, as the walk has it -/
def StepC (x : X) : Prop := ∀ (g : Nat) (P Q : List Sp) (fl : List Bool) (c : Nat) (s : ByteArray) (b : Bool) (w : World), fl.length = x.sz → SpM w g (P ++ (SL x fl ++ Q)) → x.sz ≤ c → P.length + x.sz ≤ 100000 →
  Calls Try.prog 42 #[.slice (some ⟨g, P.length * 5, none⟩) x.sz c, .string s, .bool b] w (StepR g P Q x (stepF s x fl b) w)

theorem kidsAt_pre : ∀ {ks : List X} {o c : Nat} {pre : List Kd} {k : Kd}, pre ++ [k] <+: kidsAt ks o c → ∃ rest, ks = pre.map Kd.x ++ k.x :: rest ∧ k.o = o + szL (pre.map Kd.x) ∧ k.c = c - szL (pre.map Kd.x)
  | [], o, c, pre, k, h => by
    have := h.length_le
    simp [kidsAt] at this
  | x :: xs, o, c, [], k, h => by
    obtain ⟨t, ht⟩ := h
    rw [kidsAt] at ht
    injection ht with h1 h2
    subst h1
    exact ⟨xs, rfl, by simp [szL_nil], by simp [szL_nil]⟩
  | x :: xs, o, c, p :: pre, k, h => by
    obtain ⟨t, ht⟩ := h
    rw [kidsAt] at ht
    injection ht with h1 h2
    subst h1
    obtain ⟨rest, e1, e2, e3⟩ := kidsAt_pre (ks := xs) (pre := pre) (k := k) ⟨t, h2⟩
    refine ⟨rest, by rw [e1]; rfl, ?_, ?_⟩
    · rw [e2, List.map_cons, szL_cons, Nat.add_assoc]
    · rw [e3, List.map_cons, szL_cons, Nat.sub_sub]
theorem Ch.kf {g B : Nat} {w w' : World} {L : List Sp} (h : Ch g w w') (hs : SpM w g L) : KeepsFrom B w w' := ⟨h.size, fun k o _ hk hc => (h.block k (Array.getElem?_eq_some_iff.1 hk).1 (fun e => by
  subst e
  obtain ⟨cur, h1, _⟩ := hs
  rw [h1] at hk
  cases hk
  cases hc)).trans hk⟩
theorem ownQ_ch {β : Type} {g B : Nat} {w : World} (hB : w.heap.size ≤ B) : OwnQ B (fun (_ : β) W => Ch g w W) := fun _ X Y h hr => ⟨hr.os.trans h.os, hr.tape.trans h.tape, hr.output.trans h.output, Nat.le_trans h.size hr.size, fun k hk hn => (hr.block k (Nat.lt_of_lt_of_le hk h.size) (.inl (by omega))).trans (h.block k hk hn)⟩
theorem Ch.putObj {g : Nat} {w W : World} (h : Ch g w W) {D : Nat} {o : Obj} (hD : w.heap.size ≤ D) : Ch g w (W.putObj D o) := ⟨h.os, h.tape, h.output, by simpa using h.size, fun k hk hn => (World.putObj_heap_other (by omega)).trans (h.block k hk hn)⟩
theorem Ch.set_new {g : Nat} {w W : World} (h : Ch g w W) {p : Addr} {v : Value} (hp : w.heap.size ≤ p.block) : Ch g w (W.setCell p v) := ⟨h.os, h.tape, h.output, by simpa [World.setCell] using h.size, fun k hk hn => (Below.heap_setCell _ _ _ _ (by omega)).trans (h.block k hk hn)⟩
theorem SpM.ne {W : World} {g B : Nat} {L : List Sp} {t : TypeId} {v : Value} (h : SpM W g L) (hb : Boxed W B t v) (ht : t ≠ 56) : B ≠ g := by
  rintro rfl
  obtain ⟨cur, h1, _⟩ := h
  rw [show W.heap[B]? = _ from hb] at h1
  injection h1 with h1
  injection h1 with _ h1 _
  exact ht h1
theorem SL_size {x : X} {f f' : List Bool} (h : f.length = x.sz) (h' : f'.length = x.sz) : (SL x f).map Sp.size = (SL x f').map Sp.size := by
  unfold SL
  refine List.ext_getElem ?_ fun i h1 h2 => ?_
  · simp [h, h']
  · simp [spX]

theorem rowS_take (s : ByteArray) : ∀ (ks : List X) (kf : List Bool) (b e : Bool), rowS s ks kf b e = rowS s ks (kf.take (szL ks)) b e
  | [], kf, b, e => by rw [rowS_nil, rowS_nil]
  | x :: xs, kf, b, e => by
    rw [rowS_cons, rowS_cons, szL_cons, List.take_take, List.drop_take, Nat.min_eq_left (by omega), show x.sz + szL xs - x.sz = szL xs by omega, ← rowS_take s xs]
theorem altS_take (s : ByteArray) : ∀ (ks : List X) (kf : List Bool) (b e : Bool), altS s ks kf b e = altS s ks (kf.take (szL ks)) b e
  | [], kf, b, e => by rw [altS_nil, altS_nil]
  | x :: xs, kf, b, e => by
    rw [altS_cons, altS_cons, szL_cons, List.take_take, List.drop_take, Nat.min_eq_left (by omega), show x.sz + szL xs - x.sz = szL xs by omega, ← altS_take s xs]
theorem kidsAt_x : ∀ (ks : List X) (o c : Nat), (kidsAt ks o c).map Kd.x = ks
  | [], _, _ => rfl
  | x :: xs, o, c => by rw [kidsAt, List.map_cons, kidsAt_x xs]

set_option maxRecDepth 100000 in
set_option maxHeartbeats 8000000 in
theorem row58_any {ks : List X} (hs : ∀ k ∈ ks, StepC k) (hg : goodL ks) (hks : ks ≠ []) {g Bk c : Nat} {P Q : List Sp} {s0 : Sp} {kf : List Bool} {w : World} (s : ByteArray) (b : Bool)
    (hB : Boxed w Bk 52 (.slice (some ⟨g, P.length * 5, none⟩) (1 + szL ks) c)) (hc : 1 + szL ks ≤ c) (hfl : kf.length = szL ks) (hsp : SpM w g (P ++ s0 :: (SLs ks kf ++ Q))) (hsz : P.length + 1 + szL ks ≤ 100000) :
    Calls Try.prog 58 #[.func (.func 82) #[] #[.pointer (some ⟨Bk, 0, none⟩)], .string s, .bool b] w fun e w' => e = .returned (.bool (rowS s ks kf b false).2.1) ∧ SpM w' g (P ++ s0 :: (SLs ks (rowS s ks kf b false).2.2 ++ Q)) ∧ Ch g w w' := by
  have H0 := Lib.hid (And.intro hB hsp)
  have HS := Lib.hid (And.intro hs hg)
  clear hB hsp hs hg
  refine (callsIn_wide (n := 12)).1 ?_
  refine callsIn_of_wp_marks Try.func58 rfl trivial ?_ rfl
  simp only [Try.ntmps58, List.size_toArray, List.length_cons, List.length_nil, Nat.reduceAdd, Nat.reduceSub, Array.replicate_succ, Array.replicate_zero, List.push_toArray, List.append_toArray, List.nil_append, List.cons_append]
  refine wpIn_wide.2 ?_
  go_wp2_with fail
  have hb0 : Below w.heap.size w (((w.alloc (.cells #[.string s] 9)).alloc (.cells #[.bool b] 4)).alloc (.cells #[.bool false] 4)) := (((Below.refl _ w).alloc (Nat.le_refl _) _).alloc (by simp) _).alloc (by simp; try omega) _
  generalize hQ0 : ((w.alloc (.cells #[.string s] 9)).alloc (.cells #[.bool b] 4)).alloc (.cells #[.bool false] 4) = W0 at *
  have hz0 : W0.heap.size = w.heap.size + 3 := by rw [← hQ0]; simp
  have x4 : Boxed W0 w.heap.size 9 (.string s) := by
    unfold Boxed
    rw [← hQ0, Below.heap_alloc _ _ _ (by simp; try omega), Below.heap_alloc _ _ _ (by simp)]; exact World.alloc_heap_new w _
  have x5 : Boxed W0 (w.heap.size + 1) 4 (.bool b) := by
    unfold Boxed
    rw [← hQ0, Below.heap_alloc _ _ _ (by simp)]
    have := World.alloc_heap_new (w.alloc (.cells #[.string s] 9)) (.cells #[.bool b] 4)
    rwa [World.size_alloc] at this
  have x7 : Boxed W0 (w.heap.size + 1 + 1) 4 (.bool false) := by
    unfold Boxed
    rw [← hQ0]
    have := World.alloc_heap_new ((w.alloc (.cells #[.string s] 9)).alloc (.cells #[.bool b] 4)) (.cells #[.bool false] 4)
    rwa [World.size_alloc, World.size_alloc] at this
  have hsp0 := H0.out.2.bel hb0
  have hseq := kids_seq 11 (by decide) (Boxed.bel H0.out.1 hb0) hc hks hfl hsp0 (by omega)
  have HSEQ := Lib.hid hseq
  have hgl := H0.out.2.lt
  have HI0 := Lib.hid (And.intro x4 (And.intro x5 (And.intro x7 (And.intro hsp0 hb0))))
  clear hb0 hseq x4 x5 x7 hsp0 hQ0
  refine wpIn_wide.1 (?_ : Code.wpIn Fence.wide 12 Try.prog _ _ _ _)
  refine wpIn_rangeFunc_X rfl (by omega) (gf := 82) (lb := #[.pointer (some ⟨Bk, 0, none⟩)]) rfl trivial (enters_of Try.func82 (by kernel_rfl) rfl)
    HSEQ.out KpG.trans (fun W' l' o o' hlw hl' ho _ => KpG.putObj W' l' o o' hl' ho) (Below.refl _ _) (fun _ => rfl)
    (fun pre W => (Boxed W w.heap.size 9 (.string s) ∧ Boxed W (w.heap.size + 1) 4 (.bool (rowS s (pre.map Kd.x) kf b false).1) ∧ Boxed W (w.heap.size + 1 + 1) 4 (.bool (rowS s (pre.map Kd.x) kf b false).2.1)) ∧ Ch g w W ∧
      (∀ rest, ks = pre.map Kd.x ++ rest → SpM W g (P ++ s0 :: (SLs (pre.map Kd.x) (rowS s (pre.map Kd.x) kf b false).2.2 ++ (SLs rest (kf.drop (szL (pre.map Kd.x))) ++ Q)))))
    (fun _ _ _ => False)
    (OwnQ.and (fun st X Y ⟨h1, h2, h3⟩ hr => ⟨hr.cells h1 (by decide), hr.cells h2 (by decide), hr.cells h3 (by decide)⟩) (OwnQ.and (ownQ_ch (by omega)) (fun st X Y h hr rest e => (h rest e).rel hr))) (fun c st X Y h => h.elim)
    ⟨⟨HI0.out.1, by rw [List.map_nil, rowS_nil]; exact HI0.out.2.1, by rw [List.map_nil, rowS_nil]; exact HI0.out.2.2.1⟩, Ch.of_below HI0.out.2.2.2.2, fun rest e => by
      rw [List.map_nil, List.nil_append] at e
      subst e
      rw [List.map_nil, rowS_nil, SLs_nil, szL_nil, List.drop_zero, List.nil_append]
      exact HI0.out.2.2.2.1⟩
    (fun k a' W' => a' = { tmps := #[.func (.func 82) #[] #[.pointer (some ⟨Bk, 0, none⟩)], .string s, .bool b, undef, .pointer (some ⟨w.heap.size, 0, none⟩), .pointer (some ⟨w.heap.size + 1, 0, none⟩), .bool false, .pointer (some ⟨w.heap.size + 1 + 1, 0, none⟩), k.v g, undef, .func (.func 82) #[] #[.pointer (some ⟨Bk, 0, none⟩)], k.v g, undef, undef, undef, undef, undef, undef, undef, undef, undef, undef, undef, undef, undef, undef, undef, undef, undef, undef, undef, undef, undef, undef, undef, undef, undef, undef, undef, undef], defers := [] })
    (fun k a' st X Y h _ => h) ?assign ?body ?done (fun _ _ _ _ _ _ h _ => h.elim)
  case assign =>
    intro l1 pre k W' K hI hpx hK
    have HK := Lib.hid hK
    have HI' := Lib.hid hI
    clear hK hI
    gi_wp2
    exact HK.out _ _ (KeepsFrom.refl _ _) (KpG.refl _ _ _) HI'.out (by simp [encK])
  case body =>
    rintro l1 pre k a' W hwl hloop hpx ⟨⟨h4, h5, h7⟩, hch, hspm⟩ rfl
    obtain ⟨rest, hke, hko, hkc⟩ := kidsAt_pre hpx
    have hm := hspm _ hke
    obtain ⟨m, hmm⟩ : ∃ m, pre.map Kd.x = m := ⟨_, rfl⟩
    obtain ⟨x, hxx⟩ : ∃ x, k.x = x := ⟨_, rfl⟩
    have hpk : (pre ++ [k]).map Kd.x = m ++ [x] := by rw [List.map_append, hmm, ← hxx]; rfl
    simp only [hmm, hxx] at h5 h7 hm hke hko hkc
    have hxg : x.good := HS.out.2 x (by rw [hke]; simp)
    have hxs : StepC x := HS.out.1 x (by rw [hke]; simp)
    have hmg : goodL m := fun y hy => HS.out.2 y (by rw [hke]; simp [hy])
    have hszk : szL ks = szL m + (x.sz + szL rest) := by rw [hke, szL_app, szL_cons]
    obtain ⟨r1, r2, fm, hr⟩ : ∃ r1 r2 fm, rowS s m kf b false = (r1, r2, fm) := ⟨_, _, _, rfl⟩
    have hfm : fm.length = szL m := by
      have h1 : rowS s m kf b false = rowS s m (kf.take (szL m)) b false := rowS_take s m kf b false
      have := rowS_len s m hmg (kf.take (szL m)) b false (by rw [List.length_take]; omega)
      rw [← h1, hr] at this
      exact this
    rw [hr] at h5 h7 hm
    simp only at h5 h7 hm
    obtain ⟨f, hf⟩ : ∃ f, (kf.drop (szL m)).take x.sz = f := ⟨_, rfl⟩
    have hfl2 : f.length = x.sz := by rw [← hf, List.length_take, List.length_drop]; omega
    have hkd : (kf.drop (szL m)).drop x.sz = kf.drop (szL (m ++ [x])) := by rw [szL_app, szL_cons, szL_nil, List.drop_drop]; simp
    rw [SLs_cons x rest _ (by rw [List.length_drop]; omega), hf, hkd] at hm
    have hsn := rowS_snoc s x m kf b false
    rw [hr, hf] at hsn
    simp only at hsn
    obtain ⟨f', hf'⟩ : ∃ f', stepF s x f r1 = f' := ⟨_, rfl⟩
    have hfl3 : f'.length = x.sz := by rw [← hf']; exact stepF_len s x hxg f r1 hfl2
    have hxc := hxs g (P ++ s0 :: SLs m fm) (SLs rest (kf.drop (szL (m ++ [x]))) ++ Q) f k.c s r1
    have hPl : (P ++ s0 :: SLs m fm).length = k.o := by rw [List.length_append, List.length_cons, SLs_len hfm, hko]; omega
    rw [hf', hPl] at hxc
    rw [hf'] at hsn
    have hm' : SpM W g ((P ++ s0 :: SLs m fm) ++ (SL x f ++ (SLs rest (kf.drop (szL (m ++ [x]))) ++ Q))) := by simpa using hm
    obtain ⟨e0, fk, hfk⟩ : ∃ e0 fk, f = e0 :: fk := List.exists_cons_of_length_pos (by rw [hfl2]; exact x.sz_pos)
    have hm0 : SpM W g ((P ++ s0 :: SLs m fm) ++ spX e0 x :: (SLs x.kids fk ++ (SLs rest (kf.drop (szL (m ++ [x]))) ++ Q))) := by
      rw [hfk, SL_cons] at hm'
      simpa using hm'
    have he0 : hd f = e0 := by rw [hfk]; rfl
    obtain ⟨-, -, -, z3, z4⟩ := hm0.at0
    simp only [hPl, spX] at z3 z4
    have c4 := h4.cell
    have c5 := h5.cell
    have hg4 := hm0.ne h4 (by decide)
    have hg5 := hm0.ne h5 (by decide)
    have hg7 := hm0.ne h7 (by decide)
    have hcall := hxc W hfl2 hm' (by omega) (by omega)
    have hfin : ∀ W5, SpM W5 g ((P ++ s0 :: SLs m fm) ++ (SL x f' ++ (SLs rest (kf.drop (szL (m ++ [x]))) ++ Q))) → Ch g W W5 →
        (W5.cell? ⟨w.heap.size + 1 + 1, 0, none⟩ = some (.bool r2) ∧ W5.frozen? ⟨w.heap.size + 1 + 1, 0, none⟩ = false ∧ W5.cell? ⟨w.heap.size + 1, 0, none⟩ = some (.bool r1) ∧ W5.frozen? ⟨w.heap.size + 1, 0, none⟩ = false ∧ W5.cell? ⟨g, k.o * 5 + 3, none⟩ = some (.bool x.emp)) ∧
        ∀ u v, u = (hd f' || (r2 && x.emp)) → v = (e0 || (r1 && x.emp)) → (KeepsFrom W0.heap.size W ((W5.setCell ⟨w.heap.size + 1 + 1, 0, none⟩ (.bool u)).setCell ⟨w.heap.size + 1, 0, none⟩ (.bool v)) ∧ KpG g (P ++ s0 :: (SLs ks kf ++ Q)).length W ((W5.setCell ⟨w.heap.size + 1 + 1, 0, none⟩ (.bool u)).setCell ⟨w.heap.size + 1, 0, none⟩ (.bool v)) ∧
          (Boxed ((W5.setCell ⟨w.heap.size + 1 + 1, 0, none⟩ (.bool u)).setCell ⟨w.heap.size + 1, 0, none⟩ (.bool v)) w.heap.size 9 (.string s) ∧ Boxed ((W5.setCell ⟨w.heap.size + 1 + 1, 0, none⟩ (.bool u)).setCell ⟨w.heap.size + 1, 0, none⟩ (.bool v)) (w.heap.size + 1) 4 (.bool (rowS s ((pre ++ [k]).map Kd.x) kf b false).1) ∧ Boxed ((W5.setCell ⟨w.heap.size + 1 + 1, 0, none⟩ (.bool u)).setCell ⟨w.heap.size + 1, 0, none⟩ (.bool v)) (w.heap.size + 1 + 1) 4 (.bool (rowS s ((pre ++ [k]).map Kd.x) kf b false).2.1)) ∧ Ch g w ((W5.setCell ⟨w.heap.size + 1 + 1, 0, none⟩ (.bool u)).setCell ⟨w.heap.size + 1, 0, none⟩ (.bool v)) ∧
          (∀ rest, ks = (pre ++ [k]).map Kd.x ++ rest → SpM ((W5.setCell ⟨w.heap.size + 1 + 1, 0, none⟩ (.bool u)).setCell ⟨w.heap.size + 1, 0, none⟩ (.bool v)) g (P ++ s0 :: (SLs ((pre ++ [k]).map Kd.x) (rowS s ((pre ++ [k]).map Kd.x) kf b false).2.2 ++ (SLs rest (kf.drop (szL ((pre ++ [k]).map Kd.x))) ++ Q))))) := by
      intro W5 hm5 hch5
      obtain ⟨e1, fk1, hfk1⟩ : ∃ e1 fk1, f' = e1 :: fk1 := List.exists_cons_of_length_pos (by rw [hfl3]; exact x.sz_pos)
      have hm6 : SpM W5 g ((P ++ s0 :: SLs m fm) ++ spX e1 x :: (SLs x.kids fk1 ++ (SLs rest (kf.drop (szL (m ++ [x]))) ++ Q))) := by
        rw [hfk1, SL_cons] at hm5
        simpa using hm5
      obtain ⟨-, -, -, y3, -⟩ := hm6.at0
      simp only [hPl, spX] at y3
      have b4 := hch5.boxed h4 hg4
      have b5 := hch5.boxed h5 hg5
      have b7 := hch5.boxed h7 hg7
      refine ⟨⟨b7.cell, b7.frozen, b5.cell, b5.frozen, y3⟩, ?_⟩
      rintro u v hu hv
      have hlist : (P ++ s0 :: SLs m fm) ++ (SL x f' ++ (SLs rest (kf.drop (szL (m ++ [x]))) ++ Q)) = P ++ s0 :: (SLs (m ++ [x]) (fm ++ f') ++ (SLs rest (kf.drop (szL (m ++ [x]))) ++ Q)) := by
        rw [SLs_app m [x] fm f' hfm, SLs_one x f' hfl3]
        simp
      have hmF : SpM ((W5.setCell ⟨w.heap.size + 1 + 1, 0, none⟩ (.bool u)).setCell ⟨w.heap.size + 1, 0, none⟩ (.bool v)) g ((P ++ s0 :: SLs m fm) ++ (SL x f' ++ (SLs rest (kf.drop (szL (m ++ [x]))) ++ Q))) :=
        (hm5.block (Below.heap_setCell _ _ _ _ (fun e => hg7 e.symm))).block (Below.heap_setCell _ _ _ _ (fun e => hg5 e.symm))
      have hk5 : KeepsFrom W0.heap.size W ((W5.setCell ⟨w.heap.size + 1 + 1, 0, none⟩ (.bool u)).setCell ⟨w.heap.size + 1, 0, none⟩ (.bool v)) := ((hch5.kf hm).trans ((KeepsOthers.setCell _ _ _).from _)).trans ((KeepsOthers.setCell _ _ _).from _)
      rw [hpk, hsn]
      simp only
      refine ⟨hk5, KpG.of_sp hk5.size hm' hmF ?_ ?_, ⟨(b4.other (by omega) _).other (by omega) _, ?_, ?_⟩, ((hch.trans hch5).set_new (by show w.heap.size ≤ w.heap.size + 1 + 1; omega)).set_new (by show w.heap.size ≤ w.heap.size + 1; omega), fun rest' e => ?_⟩
      · simp only [List.map_append]
        rw [SL_size hfl3 hfl2]
      · have l1 : (SLs m fm).length = szL m := SLs_len hfm
        have l2 : (SLs ks kf).length = szL ks := SLs_len hfl
        have l3 : (SL x f).length = x.sz := SL_len hfl2
        have l4 : (SLs rest (kf.drop (szL (m ++ [x])))).length = szL rest := SLs_len (by rw [List.length_drop, szL_app, szL_cons, szL_nil]; omega)
        simp only [List.length_append, List.length_cons, l1, l2, l3, l4]
        omega
      · rw [he0, ← hv]
        exact (b5.other (by omega) _).set _
      · rw [← hu]
        exact (b7.set _).other (by omega) _
      · have er : rest' = rest := by
          rw [hke] at e
          have : m ++ (x :: rest) = m ++ (x :: rest') := by rw [e]; simp
          have := List.append_cancel_left this
          injection this with _ this
          exact this.symm
        subst er
        rw [← hlist]
        exact hmF
    have HFIN := Lib.hid hfin
    have HCALL := Lib.hid hcall
    have HE0 := Lib.hid he0
    clear hfin hcall he0 hm hm' hm0 hxc hsn hspm h4 h5 h7 hch hpx hke hko hkc hfk hf hf' hr hpk
    simp only [Kd.v, hxx]
    have hxp : (0 : Int) < (x.sz : Int) := by have := x.sz_pos; omega
    generalize x.emp = em at *
    rcases Bool.eq_false_or_eq_true e0 with rfl | rfl <;> rcases Bool.eq_false_or_eq_true r1 with rfl | rfl <;> rcases Bool.eq_false_or_eq_true em with rfl | rfl
    all_goals
      · gi_wp2
        refine ⟨trivial, ?_⟩
        refine (CallsIn.inRound l1 (callsIn_wide.2 HCALL.out)).mono ?_
        rintro e W5 ⟨rfl, hm5, hch5⟩
        obtain ⟨⟨k7, k7', k5, k5', k3⟩, hF⟩ := HFIN.out W5 hm5 hch5
        have HF := Lib.hid hF
        clear hF hm5 hch5
        generalize hd f' = rs at *
        rcases Bool.eq_false_or_eq_true rs with rfl | rfl <;> rcases Bool.eq_false_or_eq_true r2 with rfl | rfl
        all_goals
          gi_wp2
          exact HF.out _ _ rfl rfl
  case done =>
    rintro D W hD ⟨⟨h4, h5, h7⟩, hch, hspm⟩ hK
    have hmp : (kidsAt ks (P.length + 1) (c - 1)).map Kd.x = ks := kidsAt_x ks _ _
    rw [hmp] at h7 hspm
    have hm := hspm [] (by simp)
    rw [SLs_nil, List.nil_append] at hm
    have hc7 := h7.cell
    have HB := Lib.hid (And.intro hm (And.intro hch hK))
    clear h4 h5 h7 hch hspm hm
    go_wp2_with fail
    refine ⟨by simp, .inl ⟨_, _, rfl, run_takeDeferred hK, ?_⟩⟩
    refine ⟨.bool (rowS s ks kf b false).2.1, by simp [results, Try.f58, go_sem], rfl, ?_, ?_⟩
    · refine HB.out.1.block (World.putObj_heap_other fun e => ?_)
      subst e
      obtain ⟨cur, h, _⟩ := HB.out.1
      rw [hK] at h
      cases h
    · exact HB.out.2.1.putObj (by omega)
end Go.Proofs.Ytnohnkhhkeikoaa
