/- The walk of what goes through the parts of two. -/
import Derived.Test.YtnohnkhhkeikoaaH
import Derived.Deep.LoopGhost
namespace Go.Proofs.Ytnohnkhhkeikoaa
open Go.ChangeShapes Go.WideShapes Go.ChangeAt Go.RowKit
set_option linter.unusedVariables false

attribute [local go_sem] Oper.semAt_some

theorem own_bel {w w' : World} {base e sz n : Nat} {v : Value} {xs : List Value} (h : w.ownsRow base e sz v n xs) (hb : Below w.heap.size w w') : w'.ownsRow base e sz v n xs := by
  refine ⟨h.1, ?_⟩
  rcases h.2 with hn | ⟨g, cap, cur, e1, hbg, hg, rest⟩
  · exact .inl hn
  · exact .inr ⟨g, cap, cur, e1, hbg, (hb.block _ (Array.getElem?_eq_some_iff.1 hg).1).trans hg, rest⟩

/-- what the next rows are made of lies as it lay -/
def S5 (W4 : World) (p : Nat) (k6 k7 u v : Value) (w' : World) : Prop := w'.cell? ⟨p, 2, none⟩ = some k6 ∧ w'.cell? ⟨p + 1, 2, none⟩ = some k7 ∧ w'.cell? ⟨p + 1 + 1, 0, none⟩ = some u ∧ w'.cell? ⟨p + 1 + 1, 1, none⟩ = some v
theorem S5.drew {W4 : World} {p : Nat} {k6 k7 u v : Value} {w' : World} (h : S5 W4 p k6 k7 u v w') : S5 W4 p k6 k7 u v w'.drew := ⟨h.1, h.2.1, h.2.2.1, h.2.2.2⟩
theorem S5.alloc {W4 : World} {p : Nat} {k6 k7 u v : Value} {w' : World} (h : S5 W4 p k6 k7 u v w') (o : Obj) : S5 W4 p k6 k7 u v (w'.alloc o) := by
  have hb : Below w'.heap.size w' (w'.alloc o) := (Below.refl _ _).alloc (Nat.le_refl _) o
  obtain ⟨h1, h2, h3, h4⟩ := h
  have hc : ∀ {a : Addr} {x : Value}, w'.cell? a = some x → (w'.alloc o).cell? a = some x := fun {a x} hx => (hb.cell (World.block_lt_of_cell? _ _ hx)).trans hx
  exact ⟨hc h1, hc h2, hc h3, hc h4⟩
theorem S5.fr {W4 : World} {p : Nat} {k6 k7 u v : Value} {w' w6 : World} {g n q : Nat} (h : S5 W4 p k6 k7 u v w') (hg : g < p) (hf : Fr (.slice (some ⟨g, 0, none⟩) n q) w' w6) : S5 W4 p k6 k7 u v w6 := by
  obtain ⟨h1, h2, h3, h4⟩ := h
  have hc : ∀ {a : Addr} {x : Value}, g < a.block → w'.cell? a = some x → w6.cell? a = some x := fun {a x} ha hx => (World.cell?_of_block (hf _ (World.block_lt_of_cell? _ _ hx) (by simp only [Value.ownBlock]; intro e; injection e with e; omega))).trans hx
  exact ⟨hc hg h1, hc (by show g < p + 1; omega) h2, hc (by show g < p + 1 + 1; omega) h3, hc (by show g < p + 1 + 1; omega) h4⟩

def encZ (z : T × T) : Array Value := #[z.1.v, z.2.v]

set_option maxRecDepth 100000 in
set_option maxHeartbeats 8000000 in
theorem pairs_seq {w0 : World} {N : Nat} (n : Nat) (hn : 2 ≤ n) {a b : T} {Ba Bb : Nat} (hA : w0.heap[Ba]? = some (.cells #[.int .i64 a.kind, .string a.lab, a.kv] 25 (0, 0))) (hB : w0.heap[Bb]? = some (.cells #[.int .i64 b.kind, .string b.lab, b.kv] 25 (0, 0)))
    (ha : TR N w0 a.kv a.kids) (hb : TR N w0 b.kv b.kids) (hN : N ≤ w0.heap.size) (hsz : (zipT a b).length ≤ 100000) :
    SeqX Fence.wide n Try.prog 53 #[.pointer (some ⟨Ba, 0, none⟩), .pointer (some ⟨Bb, 0, none⟩)] encZ (KpX N) (zipT a b) w0 := by
  intro l J Jx W hW hJ hJx hY h0
  have HY := Lib.hid hY
  have HJ := Lib.hid hJ
  have HA := Lib.hid ((hW.block _ (Array.getElem?_eq_some_iff.1 hA).1).trans hA)
  have HB := Lib.hid ((hW.block _ (Array.getElem?_eq_some_iff.1 hB).1).trans hB)
  have hNW : N ≤ W.heap.size := Nat.le_trans hN hW.size
  have HTa := Lib.hid (ha.bel (hW.mono hN))
  have HTb := Lib.hid (hb.bel (hW.mono hN))
  have HJ0 := Lib.hid h0
  obtain ⟨A1, c1, hka, -⟩ := ha.form
  obtain ⟨A2, c2, hkb, -⟩ := hb.form
  have a0 := cell_of_row _ _ 0 _ 25 (0, 0) HA.out
  have a1 := cell_of_row _ _ 1 _ 25 (0, 0) HA.out
  have a2 := cell_of_row _ _ 2 _ 25 (0, 0) HA.out
  have b0 := cell_of_row _ _ 0 _ 25 (0, 0) HB.out
  have b1 := cell_of_row _ _ 1 _ 25 (0, 0) HB.out
  have b2 := cell_of_row _ _ 2 _ 25 (0, 0) HB.out
  simp only [List.getElem?_toArray, List.getElem?_cons_zero, List.getElem?_cons_succ] at a0 a1 a2 b0 b1 b2
  rw [hka] at a2
  rw [hkb] at b2
  have HK := Lib.hid (And.intro hka hkb)
  have hla : Ba < W.heap.size := (Array.getElem?_eq_some_iff.1 HA.out).1
  have hlb : Bb < W.heap.size := (Array.getElem?_eq_some_iff.1 HB.out).1
  clear hY hJ h0 hJx hA hB ha hb hW hN hka hkb
  refine callsIn_of_wp Try.func53 rfl trivial ?_ rfl
  simp only [Try.ntmps53, List.size_toArray, List.length_cons, List.length_nil, Nat.reduceAdd, Nat.reduceSub, Array.replicate_succ, Array.replicate_zero, List.push_toArray, List.append_toArray, List.nil_append, List.cons_append]
  refine wpIn_wide.2 ?_
  go_wp2_with fail
  obtain ⟨W1, hW1⟩ : ∃ W1, (((W.alloc (.cells #[.int .i64 a.kind, .string a.lab, .slice A1 a.kids.length c1] 25)).alloc (.cells #[.int .i64 b.kind, .string b.lab, .slice A2 b.kids.length c2] 25)).alloc (.cells #[.slice (some ⟨W.heap.size, 0, none⟩) 1 1, .slice (some ⟨W.heap.size + 1, 0, none⟩) 1 1] 68)) = W1 := ⟨_, rfl⟩
  have hB1 : Below W.heap.size W W1 := by rw [← hW1]; exact (((Below.refl _ W).alloc (Nat.le_refl _) _).alloc (by simp) _).alloc (by simp; try omega) _
  have hz1 : W1.heap.size = W.heap.size + 3 := by rw [← hW1]; simp
  obtain ⟨r0, hr0⟩ : ∃ r0 : Rw, r0 = ⟨.slice (some ⟨W.heap.size, 0, none⟩) 1 1, .slice (some ⟨W.heap.size + 1, 0, none⟩) 1 1, [a], [b]⟩ := ⟨_, rfl⟩
  have hrow0 : W1.ownsRow W.heap.size 68 2 (.slice (some ⟨W.heap.size + 1 + 1, 0, none⟩) [r0].length 1) [r0].length (flatR [r0]) := by
    rw [hr0]
    refine ⟨by simp [flatR], .inr ⟨W.heap.size + 1 + 1, 1, #[.slice (some ⟨W.heap.size, 0, none⟩) 1 1, .slice (some ⟨W.heap.size + 1, 0, none⟩) 1 1], rfl, by omega, ?_, by simp, by unfold maxLen; omega, rfl, rfl⟩⟩
    rw [← hW1]
    have := World.alloc_heap_new ((W.alloc (.cells #[.int .i64 a.kind, .string a.lab, .slice A1 a.kids.length c1] 25)).alloc (.cells #[.int .i64 b.kind, .string b.lab, .slice A2 b.kids.length c2] 25)) (.cells #[.slice (some ⟨W.heap.size, 0, none⟩) 1 1, .slice (some ⟨W.heap.size + 1, 0, none⟩) 1 1] 68)
    simpa [flatR] using this
  have hone : ∀ (t : T) (g : Nat) (A : Option Addr) (c : Nat), t.kv = .slice A t.kids.length c → W1.heap[g]? = some (.cells #[.int .i64 t.kind, .string t.lab, .slice A t.kids.length c] 25 (0, 0)) → TR N W1 t.kv t.kids → TR W1.heap.size W1 (.slice (some ⟨g, 0, none⟩) 1 1) [t] := by
    intro t g A c hkv hg ht
    have hgl := (Array.getElem?_eq_some_iff.1 hg).1
    refine .mk (some ⟨g, 0, none⟩) 1 [t] ⟨g, 0, none⟩ (by simp) (fun _ => ⟨rfl, hgl⟩) (fun i hi => ?_) (fun i hi => ?_) (fun i hi => ?_) (fun i hi => ?_)
    all_goals obtain rfl : i = 0 := by simpa using hi
    · simpa [Addr.add] using cell_of_row _ _ 0 _ 25 (0, 0) hg
    · simpa [Addr.add] using cell_of_row _ _ 1 _ 25 (0, 0) hg
    · simpa [Addr.add, hkv] using cell_of_row _ _ 2 _ 25 (0, 0) hg
    · have hms : ∀ {N N' : Nat} {w : World} {v : Value} {l : List T}, TR N w v l → N ≤ N' → TR N' w v l := by
        intro N N' w v l h hN
        induction h with
        | mk A c l ad hlc hA h0 h1 h2 hk ih => exact .mk A c l ad hlc (fun h => ⟨(hA h).1, Nat.lt_of_lt_of_le (hA h).2 hN⟩) h0 h1 h2 ih
      exact hms ht (by omega)
  have hrl0 : Rl N W1 [r0] := by
    refine .inr ⟨r0, a, b, rfl, by rw [hr0], by rw [hr0], ?_, HTa.out.bel (hB1.mono hNW), HTb.out.bel (hB1.mono hNW)⟩
    rw [hr0]
    refine ⟨hone a _ A1 c1 HK.out.1 ?_ (HTa.out.bel (hB1.mono hNW)), hone b _ A2 c2 HK.out.2 ?_ (HTb.out.bel (hB1.mono hNW))⟩
    · show W1.heap[W.heap.size]? = _
      rw [← hW1, Below.heap_alloc _ _ _ (by simp; try omega), Below.heap_alloc _ _ _ (by simp)]
      exact World.alloc_heap_new W _
    · show W1.heap[W.heap.size + 1]? = _
      rw [← hW1, Below.heap_alloc _ _ _ (by simp)]
      have := World.alloc_heap_new (W.alloc (.cells #[.int .i64 a.kind, .string a.lab, .slice A1 a.kids.length c1] 25)) (.cells #[.int .i64 b.kind, .string b.lab, .slice A2 b.kids.length c2] 25)
      rwa [World.size_alloc] at this
  have hj1 : J [] W1 := HJ.out [] W W1 HJ0.out (Rel.of_below hB1)
  have hout0 : [] ++ outS [r0] = zipT a b := by rw [hr0]; simp [outS, zipTL_cons, zipTL_nil]
  have S0 := Lib.hid (show W1.ownsRow W.heap.size 68 2 (.slice (some ⟨W.heap.size + 1 + 1, 0, none⟩) [r0].length 1) [r0].length (flatR [r0]) ∧ Rl N W1 [r0] ∧ [] ++ outS [r0] = zipT a b ∧ J [] W1 ∧ W.heap.size ≤ W1.heap.size from ⟨hrow0, hrl0, hout0, hj1, hB1.size⟩)
  try rw [hW1]
  clear a0 a1 a2 b0 b1 b2 hrow0 hone hrl0 hj1 hout0 hr0 hB1 hz1 HK HTa HTb HA HB hW1 HJ0
  go_loopg [4] ((outS [r0]).length) (fun k v wr => ∃ (st : List Rw) (done : List (T × T)) (A : Option Addr) (q : Nat), v = .slice A st.length q ∧ wr.ownsRow W.heap.size 68 2 (.slice A st.length q) st.length (flatR st) ∧ Rl N wr st ∧ done ++ outS st = zipT a b ∧ J done wr ∧ W.heap.size ≤ wr.heap.size ∧ k = (outS st).length)
  case atStart => exact ⟨[r0], [], _, _, rfl, S0.out.1, S0.out.2.1, S0.out.2.2.1, S0.out.2.2.2.1, S0.out.2.2.2.2, rfl⟩
  case round =>
    obtain ⟨st, done, A, q, rfl, hrow, hrl, hdone, hj, hwz, rfl⟩ := hrel
    by_cases h0 : st = []
    · subst h0
      have hd : done = zipT a b := by rw [← hdone]; simp [outS]
      subst hd
      have HJE := Lib.hid hj
      clear hrow hrl hdone hj
      go_wp2_with fail
      go_end0
      exact ⟨⟨_, rfl⟩, .inl HJE.out⟩
    · obtain ⟨pre, r, t, ts, u, us, va', vb', rfl, hra, hrb, hpre, ht, hu, hva, hvb, hcall⟩ := hrl.top (Nat.le_trans hNW hwz) h0
      obtain ⟨A3, c3, hkt, -⟩ := ht.form
      obtain ⟨A4, c4, hku, -⟩ := hu.form
      obtain ⟨A5, c5, hk5, -⟩ := hva.form
      obtain ⟨A6, c6, hk6, -⟩ := hvb.form
      have hrl2 : 0 < (pre ++ [r]).length := by simp
      have hcut : wr.ownsRow W.heap.size 68 2 (.slice A pre.length q) pre.length (flatR pre) := own_cut (n := (pre ++ [r]).length) (ys := flatR [r]) (by rw [← flatR_app]; exact hrow) (flatR_len pre) (by simp)
      obtain ⟨g, rfl⟩ : ∃ g, A = some ⟨g, 0, none⟩ := by
        rcases hrow.2 with ⟨he, h0⟩ | ⟨g, c2, cur, he, _⟩
        · simp at h0
        · injection he with e1 _ _; exact ⟨g, e1⟩
      have q0 : wr.cell? ⟨g, pre.length * 2, none⟩ = some r.va := by
        have := hrow.cells (g := g) rfl (pre.length * 2) r.va (by rw [flatR_app, List.getElem?_append_right (by rw [flatR_len]; exact Nat.le_refl _), flatR_len, Nat.sub_self]; simp [flatR])
        by_cases hk0 : pre.length * 2 = 0
        · rw [hk0] at this ⊢; simpa [Addr.add] using this
        · simpa [Addr.add, hk0] using this
      have q1 : wr.cell? ⟨g, pre.length * 2 + 1, none⟩ = some r.vb := by
        have := hrow.cells (g := g) rfl (pre.length * 2 + 1) r.vb (by rw [flatR_app, List.getElem?_append_right (by rw [flatR_len]; omega), flatR_len, Nat.add_sub_cancel_left]; simp [flatR])
        simpa [Addr.add] using this
      have hlast : ((pre ++ [r]).length : Int) - 1 = (pre.length : Int) := by simp
      have hlt1 : (pre.length : Int) < ((pre ++ [r]).length : Int) := by simp; omega
      have hge1 : (0 : Int) < ((pre ++ [r]).length : Int) := by simp; try omega
      have hlen : (pre ++ [r]).length ≤ 100000 := by
        have h1 := outS_len _ hrl.full
        have h2 : (outS (pre ++ [r])).length ≤ (zipT a b).length := by rw [← hdone]; simp
        omega
      have hdn : done ++ (t, u) :: outS (pre ++ fulls [⟨va', vb', ts, us⟩, ⟨t.kv, u.kv, t.kids, u.kids⟩]) = zipT a b := by
        rw [← hdone, outS_fulls, outS_snoc, hra, hrb, zipTL_cons, zipT_eq]
        simp
      have hme : (outS (pre ++ [r])).length = (outS (pre ++ fulls [⟨va', vb', ts, us⟩, ⟨t.kv, u.kv, t.kids, u.kids⟩])).length + 1 := by
        rw [outS_fulls, outS_snoc, hra, hrb, zipTL_cons, zipT_eq]
        simp
      unfold FirstR T.v Rw.v at hcall
      have S1 := Lib.hid (And.intro hcut (And.intro hpre (And.intro hdn (And.intro hme (And.intro hj hwz)))))
      have S2 := Lib.hid (And.intro ht (And.intro hu (And.intro hva hvb)))
      have HC := Lib.hid hcall
      have HK2 := Lib.hid (And.intro hkt (And.intro hku (And.intro hk5 hk6)))
      rw [hkt, hku, hk5, hk6] at HC
      have hpn : (pre ++ [r]).length = pre.length + 1 := by simp
      rw [hpn] at hlast hlt1 hge1 hlen ⊢
      generalize r.va = Va at *
      generalize r.vb = Vb at *
      clear hrow hrl hdone hj hwz hra hrb hpre ht hu hva hvb hcall hcut hdn hme hkt hku hk5 hk6 h0 hrl2 hpn
      go_upto_region 4 with (go_at_call 54; refine HC.out.mono ?_; rintro e w1 ⟨rfl, hb1⟩; have HB1 := Lib.hid hb1; clear hb1)
      obtain ⟨W3, hW3⟩ : ∃ W3, ((w1.alloc (.cells #[.int .i64 t.kind, .string t.lab, .slice A3 t.kids.length c3] 25)).alloc (.cells #[.int .i64 u.kind, .string u.lab, .slice A4 u.kids.length c4] 25)).alloc (.cells #[.slice A5 ts.length c5, .slice A6 us.length c6] 68) = W3 := ⟨_, rfl⟩
      have hb3 : Below wr.heap.size wr W3 := by rw [← hW3]; exact (((HB1.out.alloc HB1.out.size _).alloc (by have := HB1.out.size; simp; omega) _).alloc (by have := HB1.out.size; simp; omega) _)
      have x6 : W3.heap[w1.heap.size]? = some (.cells #[.int .i64 t.kind, .string t.lab, .slice A3 t.kids.length c3] 25 (0, 0)) := by
        rw [← hW3, Below.heap_alloc _ _ _ (by simp; try omega), Below.heap_alloc _ _ _ (by simp)]
        exact World.alloc_heap_new w1 _
      have x7 : W3.heap[w1.heap.size + 1]? = some (.cells #[.int .i64 u.kind, .string u.lab, .slice A4 u.kids.length c4] 25 (0, 0)) := by
        rw [← hW3, Below.heap_alloc _ _ _ (by simp)]
        have := World.alloc_heap_new (w1.alloc (.cells #[.int .i64 t.kind, .string t.lab, .slice A3 t.kids.length c3] 25)) (.cells #[.int .i64 u.kind, .string u.lab, .slice A4 u.kids.length c4] 25)
        rwa [World.size_alloc] at this
      have x8 : W3.heap[w1.heap.size + 1 + 1]? = some (.cells #[.slice A5 ts.length c5, .slice A6 us.length c6] 68 (0, 0)) := by
        rw [← hW3]
        have := World.alloc_heap_new ((w1.alloc (.cells #[.int .i64 t.kind, .string t.lab, .slice A3 t.kids.length c3] 25)).alloc (.cells #[.int .i64 u.kind, .string u.lab, .slice A4 u.kids.length c4] 25)) (.cells #[.slice A5 ts.length c5, .slice A6 us.length c6] 68)
        rwa [World.size_alloc, World.size_alloc] at this
      have y0 := cell_of_row _ _ 0 _ 25 (0, 0) x6
      have y1 := cell_of_row _ _ 1 _ 25 (0, 0) x6
      have y2 := cell_of_row _ _ 2 _ 25 (0, 0) x6
      have z0 := cell_of_row _ _ 0 _ 25 (0, 0) x7
      have z1 := cell_of_row _ _ 1 _ 25 (0, 0) x7
      have z2 := cell_of_row _ _ 2 _ 25 (0, 0) x7
      simp only [List.getElem?_toArray, List.getElem?_cons_zero, List.getElem?_cons_succ] at y0 y1 y2 z0 z1 z2
      have hj3 : J done W3 := HJ.out done wr W3 S1.out.2.2.2.2.1 (Rel.of_below hb3)
      have hw3 : W.heap.size ≤ W3.heap.size := Nat.le_trans S1.out.2.2.2.2.2 hb3.size
      have hpfx : done ++ [(t, u)] <+: zipT a b := ⟨_, (List.append_assoc _ _ _).trans S1.out.2.2.1⟩
      have HPF := Lib.hid hpfx
      obtain ⟨fn, tmps, assign, body, hy, hR⟩ := HY.out done (t, u) W3 hpfx hw3 hj3
      simp only [encZ, T.v] at hy
      rw [HK2.out.1, HK2.out.2.1] at hy
      have X3 := Lib.hid (And.intro x6 (And.intro x7 (And.intro x8 (And.intro hb3 hw3))))
      have HR := Lib.hid hR
      clear x6 x7 x8 hb3 hj3 hw3 hpfx hR
      try rw [hW3]
      clear hW3
      refine wpIn_wide.1 (?_ : Code.wpIn Fence.wide n Try.prog _ _ _ _)
      gi_wp2
      refine ⟨fun h => (by cases h), ?_⟩
      refine HR.out.mono ?_
      rintro e W4 ⟨hkf, (⟨rfl, hJ4, hk4⟩ | ⟨rfl, hJx4⟩)⟩
      · have X4 := Lib.hid (And.intro hkf (And.intro hJ4 hk4))
        clear hkf hJ4 hk4
        gi_wp2
        go_upto_region 5 with (fail)
        obtain ⟨x6, x7, x8, hb3, hw3⟩ := X3.out
        obtain ⟨hkf, hJ4, hk4⟩ := X4.out
        have x6' := hk4.cells _ _ _ _ x6 rfl
        have x7' := hk4.cells _ _ _ _ x7 rfl
        have x8' := hk4.cells _ _ _ _ x8 rfl
        have y2' := cell_of_row _ _ 2 _ 25 (0, 0) x6'
        have z2' := cell_of_row _ _ 2 _ 25 (0, 0) x7'
        have u0 := cell_of_row _ _ 0 _ 68 (0, 0) x8'
        have u1 := cell_of_row _ _ 1 _ 68 (0, 0) x8'
        simp only [List.getElem?_toArray, List.getElem?_cons_zero, List.getElem?_cons_succ] at y2' z2' u0 u1
        have S5' := Lib.hid (show S5 W4 w1.heap.size (.slice A3 t.kids.length c3) (.slice A4 u.kids.length c4) (.slice A5 ts.length c5) (.slice A6 us.length c6) W4.drew from S5.drew ⟨y2', z2', u0, u1⟩)
        -- what stands lies as it lay
        obtain ⟨hcut, hpre, hdn, hme, -, hwz⟩ := S1.out
        obtain ⟨ht, hu, hva, hvb⟩ := S2.out
        have hNr : N ≤ wr.heap.size := Nat.le_trans hNW hwz
        have hall : ∀ {v : Value} {l : List T}, TR N wr v l → TR N W4 v l := fun h => (h.bel (hb3.mono hNr)).kp hk4
        have hcut4 : W4.ownsRow W.heap.size 68 2 (.slice (some ⟨g, 0, none⟩) pre.length q) pre.length (flatR pre) := KpX.row (own_bel hcut hb3) hk4 rfl
        have hgl : g < W4.heap.size := by
          rcases hcut4.2 with ⟨he, _⟩ | ⟨g', c2, cur, he, _, hg', _⟩
          · cases he
          · injection he with e1 _ _
            injection e1 with e1
            injection e1 with e1 _ _
            subst e1
            exact (Array.getElem?_eq_some_iff.1 hg').1
        have hrl4 : ∀ x ∈ pre ++ fulls [(⟨va', vb', ts, us⟩ : Rw), ⟨t.kv, u.kv, t.kids, u.kids⟩], x.full ∧ x.ok N W4 := by
          intro x hx
          rcases List.mem_append.1 hx with hx | hx
          · obtain ⟨h1, h2, h3⟩ := hpre x hx
            exact ⟨h1, hall h2, hall h3⟩
          · obtain ⟨h1, h2⟩ := List.mem_filter.1 hx
            refine ⟨by simpa using h2, ?_⟩
            simp only [List.mem_cons, List.not_mem_nil, or_false] at h1
            rcases h1 with rfl | rfl
            · exact ⟨hall hva, hall hvb⟩
            · exact ⟨hall ht, hall hu⟩
        have hform : ∀ r ∈ [(⟨va', vb', ts, us⟩ : Rw), ⟨t.kv, u.kv, t.kids, u.kids⟩], r.formed := by
          intro x hx
          simp only [List.mem_cons, List.not_mem_nil, or_false] at hx
          rcases hx with rfl | rfl
          · exact ⟨_, _, _, _, HK2.out.2.2.1, HK2.out.2.2.2⟩
          · exact ⟨_, _, _, _, HK2.out.1, HK2.out.2.1⟩
        have hbA : Below W4.heap.size W4 (W4.alloc (.cells #[.slice A5 ts.length c5, .slice A6 us.length c6, .slice A3 t.kids.length c3, .slice A4 u.kids.length c4] 68)).drew := ((Below.refl _ W4).alloc (Nat.le_refl _) _).drew
        have hwith : Calls Try.prog 55 #[.slice (some ⟨g, 0, none⟩) pre.length q, .slice (some ⟨W4.heap.size, 0, none⟩) 2 2] (W4.alloc (.cells #[.slice A5 ts.length c5, .slice A6 us.length c6, .slice A3 t.kids.length c3, .slice A4 u.kids.length c4] 68)).drew (WithR W.heap.size (.slice (some ⟨g, 0, none⟩) pre.length q) (pre ++ fulls [⟨va', vb', ts, us⟩, ⟨t.kv, u.kv, t.kids, u.kids⟩]) (W4.alloc (.cells #[.slice A5 ts.length c5, .slice A6 us.length c6, .slice A3 t.kids.length c3, .slice A4 u.kids.length c4] 68)).drew) := by
          refine with_any (own_bel hcut4 hbA) ?_ ?_ ?_ hform ?_
          · have := hkf.size; have := hbA.size; omega
          · rw [HK2.out.1, HK2.out.2.1, HK2.out.2.2.1, HK2.out.2.2.2]; exact World.alloc_heap_new W4 _
          · simp only [Value.ownBlock]; intro e; injection e with e; omega
          · omega
        have SA := Lib.hid (show S5 W4 w1.heap.size (.slice A3 t.kids.length c3) (.slice A4 u.kids.length c4) (.slice A5 ts.length c5) (.slice A6 us.length c6) (W4.alloc (.cells #[.slice A5 ts.length c5, .slice A6 us.length c6, .slice A3 t.kids.length c3, .slice A4 u.kids.length c4] 68)).drew from S5.drew (S5.alloc ⟨y2', z2', u0, u1⟩ _))
        have hRA : Rel W.heap.size W4 (W4.alloc (.cells #[.slice A5 ts.length c5, .slice A6 us.length c6, .slice A3 t.kids.length c3, .slice A4 u.kids.length c4] 68)).drew := Rel.of_below hbA
        have HRA := Lib.hid hRA
        have hgp : g < w1.heap.size := by
          have h1 := HB1.out.size
          rcases hcut.2 with ⟨he, _⟩ | ⟨g', c2, cur, he, _, hg', _⟩
          · cases he
          · injection he with e1 _ _
            injection e1 with e1
            injection e1 with e1 _ _
            subst e1
            have := (Array.getElem?_eq_some_iff.1 hg').1
            omega
        have HGP := Lib.hid hgp
        clear hgp
        have HWT := Lib.hid hwith
        have HRL := Lib.hid hrl4
        have X5 := Lib.hid (And.intro hJ4 (And.intro hkf (And.intro hdn hme)))
        have hlq : (pre.length : Int) ≤ (q : Int) := by
          rcases hcut4.2 with ⟨he, _⟩ | ⟨g', c2, cur, he, _, _, hc, _⟩
          · cases he
          · injection he with _ _ e3; omega
        clear x6 x7 x8 hb3 hw3 hkf hJ4 hk4 x6' x7' x8' hcut hpre hdn hme hwz ht hu hva hvb hNr hall hcut4 hgl hrl4 hform hwith hbA hRA y0 y1 y2 z0 z1 z2 y2' z2' u0 u1 hy
        generalize w1.heap.size = p at *
        generalize hTs : ts.length = n5 at *
        generalize hUs : us.length = n6 at *
        generalize hTk : t.kids.length = n3 at *
        generalize hUk : u.kids.length = n4 at *
        go_region_held3 (fun w' => w'.cell? ⟨p, 2, none⟩ = some (.slice A3 n3 c3) ∧ w'.cell? ⟨p + 1, 2, none⟩ = some (.slice A4 n4 c4) ∧ w'.cell? ⟨p + 1 + 1, 0, none⟩ = some (.slice A5 n5 c5) ∧ w'.cell? ⟨p + 1 + 1, 1, none⟩ = some (.slice A6 n6 c6)) (first | exact S5'.out | exact SA.out | exact S6.out)
          (first | (go_at_call 55; refine HWT.out.mono ?_; rintro e w6 ⟨v6, rfl, hrow6, hrel6, hfr6⟩; have X6 := Lib.hid (And.intro hrow6 hrel6); have S6 := Lib.hid (S5.fr SA.out HGP.out hfr6); clear hrow6 hrel6 hfr6))
        obtain ⟨hrow6, hrel6⟩ := X6.out
        obtain ⟨hJ4, hkf, hdn, hme⟩ := X5.out
        have hrl6 := HRA.out.trans hrel6
        have hj6 := HJ.out _ W4 w6 hJ4 hrl6
        have hsz6 : W.heap.size ≤ w6.heap.size := by have h1 := hrl6.size; have h2 := hkf.size; have h3 := X3.out.2.2.2.2; omega
        have hok6 : Rl N w6 (pre ++ fulls [⟨va', vb', ts, us⟩, ⟨t.kv, u.kv, t.kids, u.kids⟩]) := by
          refine .inl fun x hx => ?_
          obtain ⟨h1, h2, h3⟩ := HRL.out x hx
          have hlow : ∀ k, k < N → w6.heap[k]? = W4.heap[k]? := fun k hk => hrl6.block k (by have h2 := hkf.size; have h3 := X3.out.2.2.2.2; omega) (.inl (by omega))
          exact ⟨h1, h2.keep hlow, h3.keep hlow⟩
        obtain ⟨A7, q7, rfl⟩ := row_form hrow6
        have R := Lib.hid (And.intro hrow6 (And.intro hok6 (And.intro hdn (And.intro hj6 (And.intro hsz6 hme)))))
        clear hrow6 hrel6 hJ4 hkf hdn hme hrl6 hj6 hsz6 hok6
        go_wp2_with fail
        go_roundg ((outS (pre ++ fulls [⟨va', vb', ts, us⟩, ⟨t.kv, u.kv, t.kids, u.kids⟩])).length)
        case measure => have := R.out.2.2.2.2.2; omega
        case rel => exact ⟨_, _, _, _, rfl, R.out.1, R.out.2.1, by rw [List.append_assoc]; exact R.out.2.2.1, R.out.2.2.2.1, R.out.2.2.2.2.1, rfl⟩
      · have X4 := Lib.hid hJx4
        clear hkf hJx4
        gi_wp2
        go_wp2_with fail
        refine bodyPost_ret (results_none rfl _ _ _) rfl ?_
        exact ⟨⟨_, rfl⟩, .inr ⟨_, HPF.out, X4.out⟩⟩
end Go.Proofs.Ytnohnkhhkeikoaa
