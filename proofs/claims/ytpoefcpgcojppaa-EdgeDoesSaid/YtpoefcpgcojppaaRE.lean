/- Walk of the document's Parse. -/
import Derived.Test.YtpoefcpgcojppaaRB
import Derived.Test.YtpoefcpgcojppaaPO
namespace Go.Proofs.Ytpoefcpgcojppaa
open Go.ChangeShapes Go.WideShapes Go.ChangeAt Go.RowKit
set_option linter.unusedVariables false

theorem rT_small (s : Rs) : (rT s).1.size ≤ 255 := by
  have h := tk_len (b0 (tk 1 s).1).toNat (tk 1 s).2
  have h2 := (b0 (tk 1 s).1).toNat_lt
  show (List.toArray _).size ≤ _
  rw [List.size_toArray]
  omega
theorem rPs_num : ∀ n (s : Rs), (rPs n s).1.length = n
  | 0, s => rfl
  | n + 1, s => by show ((rPs n s).1 ++ [_]).length = _; simp [rPs_num n s]
theorem rT_le (s : Rs) : (rT s).2.1.length ≤ s.1.length := by unfold rT; exact Nat.le_trans (tk_le _ _) (tk_le _ _)
theorem rN_le (s : Rs) : (rN s).2.1.length ≤ s.1.length := by unfold rN; exact tk_le _ _
theorem rV_le (s : Rs) : (rV s).2.1.length ≤ s.1.length := by
  unfold rV
  split
  · exact Nat.le_trans (rN_le _) (tk_le _ _)
  · exact Nat.le_trans (rT_le _) (tk_le _ _)
theorem rPs_le : ∀ n (s : Rs), (rPs n s).2.1.length ≤ s.1.length
  | 0, s => Nat.le_refl _
  | n + 1, s => Nat.le_trans (Nat.le_trans (rV_le _) (rT_le _)) (rPs_le n s)
theorem rE_sz (s : Rs) : SzE (rE s).1 := by
  refine ⟨Nat.le_trans (rT_small _) (by omega), Nat.le_trans (rT_small _) (by omega), Nat.le_trans (rT_small _) (by omega), ?_, ?_⟩
  · show (rPs (hN s) (h5 s)).1.length ≤ _
    rw [rPs_num]
    have h2 := (b0 (tk 1 (h4 s)).1).toNat_lt
    unfold hN
    omega
  · have h : ∀ n (b : Rs), ∀ p ∈ (rPs n b).1, p.1.size ≤ 281474976710656 ∧ p.2.2.2.size ≤ 281474976710656 := by
      intro n
      induction n with
      | zero => intro b p hp; simp [rPs] at hp
      | succ n ih =>
        intro b p hp
        have hp' : p ∈ (rPs n b).1 ++ [(rP (rPs n b).2).1] := hp
        rcases List.mem_append.1 hp' with h1 | h1
        · exact ih b p h1
        · have h2 := List.mem_singleton.1 h1
          subst h2
          refine ⟨Nat.le_trans (rT_small _) (by omega), ?_⟩
          show (rV (rT (rPs n b).2).2).1.2.2.size ≤ _
          unfold rV
          split
          · exact Nat.zero_le _
          · exact Nat.le_trans (rT_small _) (by omega)
    exact h _ _

/-- a prop's own block -/
def DB (w : World) (D : Nat) (x : Pt) : Prop := w.heap[D]? = some (.cells #[.string x.1, .int .i64 x.2.1, .int .i64 x.2.2.1, .string x.2.2.2] 53 (0, 0))
theorem DB.at4 {w : World} {D : Nat} {x : Pt} (h : DB w D x) : w.cell? ⟨D, 0, none⟩ = some (.string x.1) ∧ w.cell? ⟨D, 1, none⟩ = some (.int .i64 x.2.1) ∧ w.cell? ⟨D, 2, none⟩ = some (.int .i64 x.2.2.1) ∧ w.cell? ⟨D, 3, none⟩ = some (.string x.2.2.2) :=
  ⟨by rw [cell_of_row _ _ 0 _ 53 (0, 0) h]; rfl, by rw [cell_of_row _ _ 1 _ 53 (0, 0) h]; rfl, by rw [cell_of_row _ _ 2 _ 53 (0, 0) h]; rfl, by rw [cell_of_row _ _ 3 _ 53 (0, 0) h]; rfl⟩
theorem DB.fz {w : World} {D : Nat} {x : Pt} (h : DB w D x) : w.frozen? ⟨D, 0, none⟩ = false ∧ w.frozen? ⟨D, 1, none⟩ = false ∧ w.frozen? ⟨D, 2, none⟩ = false ∧ w.frozen? ⟨D, 3, none⟩ = false :=
  ⟨Go.Joins.unfrozen_of_block h 0, Go.Joins.unfrozen_of_block h 1, Go.Joins.unfrozen_of_block h 2, Go.Joins.unfrozen_of_block h 3⟩
theorem DB.keep {w w' : World} {D B : Nat} {x : Pt} (h : DB w D x) (hk : Keep (fun k => k ≠ B) w w') (hB : D ≠ B) : DB w' D x := (hk.block D (Array.getElem?_eq_some_iff.1 h).1 hB).trans h
theorem EB.at5 {w : World} {E : Nat} {s d l : ByteArray} {t : Int} {pv : Value} (h : EB w E s d l t pv) : w.cell? ⟨E, 0, none⟩ = some (.string s) ∧ w.cell? ⟨E, 1, none⟩ = some (.string d) ∧ w.cell? ⟨E, 2, none⟩ = some (.string l) ∧ w.cell? ⟨E, 3, none⟩ = some (.int .i64 t) ∧ w.cell? ⟨E, 4, none⟩ = some pv :=
  ⟨by rw [cell_of_row _ _ 0 _ 24 (0, 0) h]; rfl, by rw [cell_of_row _ _ 1 _ 24 (0, 0) h]; rfl, by rw [cell_of_row _ _ 2 _ 24 (0, 0) h]; rfl, by rw [cell_of_row _ _ 3 _ 24 (0, 0) h]; rfl, by rw [cell_of_row _ _ 4 _ 24 (0, 0) h]; rfl⟩
theorem EB.keep {w w' : World} {E B : Nat} {s d l : ByteArray} {t : Int} {pv : Value} (h : EB w E s d l t pv) (hk : Keep (fun k => k ≠ B) w w') (hB : E ≠ B) : EB w' E s d l t pv := (hk.block E (Array.getElem?_eq_some_iff.1 h).1 hB).trans h
/-- a store to a block that is younger than the worlds compared -/
theorem Keep.set_new {p : Nat → Prop} {w w' : World} (h : Keep p w w') {D i : Nat} (hD : w.heap.size ≤ D) (v : Value) : Keep p w (w'.setCell ⟨D, i, none⟩ v) :=
  ⟨h.os, h.tape, h.output, by simpa using h.size, fun k hk hp => by rw [Below.heap_setCell _ _ _ _ (show k ≠ D by omega)]; exact h.block k hk hp⟩
theorem RdQ.set {w : World} {B D i : Nat} {s : Rs} {v : Value} (h : RdQ w B s) (hD : B < D) : RdQ (w.setCell ⟨D, i, none⟩ v) B s := h.keep (keep_set2 w D i v) (fun k hk => by show k ≠ D; omega)
theorem EB.set_new {w : World} {E D i : Nat} {s d l : ByteArray} {t : Int} {pv v : Value} (h : EB w E s d l t pv) (hD : E ≠ D) : EB (w.setCell ⟨D, i, none⟩ v) E s d l t pv := by
  unfold EB
  rw [Below.heap_setCell _ _ _ _ hD]
  exact h
theorem heap_set {w : World} {b B i : Nat} {o : Obj} {v : Value} (h : w.heap[b]? = some o) (hB : b ≠ B) : (w.setCell ⟨B, i, none⟩ v).heap[b]? = some o := by rw [Below.heap_setCell _ _ _ _ hB]; exact h

theorem kk_call {B E : Nat} {a b c : World} (h : Keep (fun k => k ≠ B ∧ k ≠ E) a b) (k : Keep (fun k => k ≠ B) b c) : Keep (fun k => k ≠ B ∧ k ≠ E) a c := h.trans k fun _ _ h => h.1
theorem kk_set {B E i : Nat} {a b : World} (h : Keep (fun k => k ≠ B ∧ k ≠ E) a b) (v : Value) : Keep (fun k => k ≠ B ∧ k ≠ E) a (b.setCell ⟨E, i, none⟩ v) := h.trans (keep_set2 b E i v) fun _ _ h => h.2
theorem EB.fz {w : World} {E : Nat} {s d l : ByteArray} {t : Int} {pv : Value} (h : EB w E s d l t pv) : w.frozen? ⟨E, 0, none⟩ = false ∧ w.frozen? ⟨E, 1, none⟩ = false ∧ w.frozen? ⟨E, 2, none⟩ = false ∧ w.frozen? ⟨E, 3, none⟩ = false ∧ w.frozen? ⟨E, 4, none⟩ = false :=
  ⟨Go.Joins.unfrozen_of_block h 0, Go.Joins.unfrozen_of_block h 1, Go.Joins.unfrozen_of_block h 2, Go.Joins.unfrozen_of_block h 3, Go.Joins.unfrozen_of_block h 4⟩
theorem EB.lt {w : World} {E : Nat} {s d l : ByteArray} {t : Int} {pv : Value} (h : EB w E s d l t pv) : E < w.heap.size := (Array.getElem?_eq_some_iff.1 h).1
theorem row_form4' {w : World} {base e size n : Nat} {v : Value} {xs : List Value} (h : w.ownsRow base e size v n xs) : ∃ A c, v = .slice A n c := by
  rcases h.2 with ⟨rfl, rfl⟩ | ⟨g, cap, cur, rfl, _⟩
  · exact ⟨_, _, rfl⟩
  · exact ⟨_, _, rfl⟩
/-- the one byte of a slice -/
theorem byte_of {w : World} {A : Option Addr} {c q : Nat} {T : List UInt8} (h : BR w (.slice A 1 c) T) (hT : byC T = [.int .u8 (q : Int)]) : ∃ ad, A = some ad ∧ ad.block < w.heap.size ∧ w.cell? ad = some (.int .u8 (q : Int)) := by
  obtain ⟨A', c', e, hh⟩ := h
  have e1 : T.length = 1 := by have := congrArg List.length hT; rw [byC_len] at this; exact this
  injection e with e2 e3 e4
  subst e2
  obtain ⟨ad, p1, p0, p2⟩ := hh (by omega)
  have p3 := p2 0 (.int .u8 (q : Int)) (by rw [hT]; rfl)
  exact ⟨ad, p1, p0, by simpa [Addr.add] using p3⟩

set_option maxHeartbeats 4000000 in
set_option maxRecDepth 100000 in
theorem rparse_walk {w : World} {v : Value} {l : List UInt8} (h : BR w v l) (hcap : ∀ A n c, v = .slice A n c → n ≤ c ∧ (A = none → c = 0)) (hl : l.length ≤ 281474976710656) : Calls Try.prog 26 #[v] w (ParsR (rParse l) w) := by
  unfold ParsR
  obtain ⟨A, c, rfl, hc⟩ := h
  have hc1 := hcap A _ c rfl
  obtain ⟨N, hNN⟩ : ∃ N, w.heap.size = N := ⟨_, rfl⟩
  obtain ⟨W0, hW0⟩ : ∃ W, ((w.alloc zE5).alloc (.cells #[.slice A l.length c, .bool false] 76)).alloc zE5 = W := ⟨_, rfl⟩
  have HB0 := Lib.hid (show Below N w W0 by rw [← hW0, ← hNN]; exact (((Below.refl _ w).alloc (Nat.le_refl _) _).alloc (by simp) _).alloc (by simp; omega) _)
  have HZ0 := Lib.hid (show W0.heap.size = N + 3 by rw [← hW0, ← hNN]; simp)
  have HRes := Lib.hid (show W0.heap[N]? = some (.cells #[.string ⟨#[]⟩, .string ⟨#[]⟩, .string ⟨#[]⟩, .int .i64 0, .slice none 0 0] 24 (0, 0)) by
    rw [← hW0, ← hNN]
    exact (Below.heap_alloc _ _ _ (by simp; omega)).trans ((Below.heap_alloc _ _ _ (by simp)).trans (heap_alloc_new w zE5)))
  have HQ0 := Lib.hid (show RdQ W0 (N + 1) (l, false) by
    refine ⟨.slice A l.length c, ?_, A, c, rfl, hc1.1, fun hn => ?_, hc1.2⟩
    · rw [← hW0, ← hNN]
      have hx2 := heap_alloc_new (w.alloc zE5) (.cells #[.slice A l.length c, .bool false] 76)
      rw [World.size_alloc] at hx2
      exact (Below.heap_alloc _ _ _ (by simp)).trans hx2
    · obtain ⟨ad, e1, e2, e3⟩ := hc hn
      refine ⟨ad, e1, by omega, by have := HZ0.out; omega, fun j u hj => (HB0.out.cell (p := ad.add j) (by rw [block_add]; omega)).trans (e3 j u hj)⟩)
  have HE0 := Lib.hid (show EB W0 (N + 1 + 1) ⟨#[]⟩ ⟨#[]⟩ ⟨#[]⟩ 0 (.slice none 0 0) by
    unfold EB
    rw [← hW0, ← hNN]
    have hx2 := heap_alloc_new ((w.alloc zE5).alloc (.cells #[.slice A l.length c, .bool false] 76)) zE5
    rw [World.size_alloc, World.size_alloc] at hx2
    exact hx2)
  obtain ⟨m, hM⟩ : ∃ m, l.length = m := ⟨_, rfl⟩
  have HM := Lib.hid hM
  rw [hM] at hW0
  clear hc hc1 hcap
  -- what is read, in order
  have HP : Hid (rParse l = if (rE (l, false)).2.2 = true ∨ (rE (l, false)).2.1 ≠ [] ∨ checkE (rE (l, false)).1 ≠ 0 then (zeroE, 4) else ((rE (l, false)).1, 0)) := rfl
  have HSZ := Lib.hid (rE_sz (l, false))
  have hre : rE (l, false) = (⟨(rT (l, false)).1, (rT (h1 (l, false))).1, (rT (h2 (l, false))).1, (rN (h3 (l, false))).1, (rPs (hN (l, false)) (h5 (l, false))).1⟩, (rPs (hN (l, false)) (h5 (l, false))).2) := rfl
  have f1 := fun W (hW : RdQ W (N + 1) (l, false)) => rtext_any hW hl
  have l1 : (h1 (l, false)).1.length ≤ 281474976710656 := Nat.le_trans (rT_le _) hl
  have f2 := fun W (hW : RdQ W (N + 1) (h1 (l, false))) => rtext_any hW l1
  have l2 : (h2 (l, false)).1.length ≤ 281474976710656 := Nat.le_trans (rT_le _) l1
  have f3 := fun W (hW : RdQ W (N + 1) (h2 (l, false))) => rtext_any hW l2
  have l3 : (h3 (l, false)).1.length ≤ 281474976710656 := Nat.le_trans (rT_le _) l2
  have f4 := fun W (hW : RdQ W (N + 1) (h3 (l, false))) => rnumber_any hW l3
  have l4 : (h4 (l, false)).1.length ≤ 281474976710656 := Nat.le_trans (rN_le _) l3
  have f5 := fun W (hW : RdQ W (N + 1) (h4 (l, false))) => take_any hW 1 (by omega) l4
  have l5 : (h5 (l, false)).1.length ≤ 281474976710656 := Nat.le_trans (tk_le _ _) l4
  have hT1 : byC (tk 1 (h4 (l, false))).1 = [.int .u8 (hN (l, false) : Int)] := by
    have hx := b0_one (tk_len 1 (h4 (l, false)))
    rw [hx]
    rfl
  have hT2 := tk_len 1 (h4 (l, false))
  have hn255 : hN (l, false) < 256 := UInt8.toNat_lt _
  have e1 : (rT (l, false)).2 = h1 (l, false) := rfl
  have e2 : (rT (h1 (l, false))).2 = h2 (l, false) := rfl
  have e3 : (rT (h2 (l, false))).2 = h3 (l, false) := rfl
  have e4 : (rN (h3 (l, false))).2 = h4 (l, false) := rfl
  have e5 : (tk 1 (h4 (l, false))).2 = h5 (l, false) := rfl
  unfold RTextR at f1 f2 f3
  unfold RNumR at f4
  unfold TakeR at f5
  rw [e1] at f1
  rw [e2] at f2
  rw [e3] at f3
  rw [e4] at f4
  rw [e5] at f5
  clear e1 e2 e3 e4 e5 l1 l2 l3 l4
  generalize (rT (l, false)).1 = xs at *
  generalize (rT (h1 (l, false))).1 = xd at *
  generalize (rT (h2 (l, false))).1 = xl at *
  generalize (rN (h3 (l, false))).1 = xt at *
  generalize (tk 1 (h4 (l, false))).1 = T at *
  generalize hN (l, false) = n at *
  generalize h5 (l, false) = s5 at *
  generalize h4 (l, false) = s4 at *
  generalize h3 (l, false) = s3 at *
  generalize h2 (l, false) = s2 at *
  generalize h1 (l, false) = s1 at *
  have HRE := Lib.hid hre
  have HT := Lib.hid (And.intro hT1 hT2)
  have F1 := Lib.hid f1
  have F2 := Lib.hid f2
  have F3 := Lib.hid f3
  have F4 := Lib.hid f4
  have F5 := Lib.hid f5
  have HL5 := Lib.hid l5
  clear hre hT1 hT2 f1 f2 f3 f4 f5 l5 hl
  have HNN := Lib.hid hNN
  rw [hM]
  clear hM
  go_enter Try.func26, Try.ntmps26
  go_upto_region 3 with (fail)
  clear hW0 hNN
  generalize hB : N + 1 = B at *
  generalize hE : B + 1 = E at *
  have hEB : E ≠ B := by omega
  have hBE : B < E := by omega
  have hK0 := Keep.refl (fun k => k ≠ B ∧ k ≠ E) W0
  have K0 := Lib.hid hK0
  have HEQ := Lib.hid (And.intro hB hE)
  clear hB hE hK0
  obtain ⟨c0, c1, c2, c3, c4⟩ := HE0.out.at5
  go_wp2_with (first
    | (go_at_call 59; refine (F1.out _ HQ0.out).mono ?_; clear F1; rintro z w1 ⟨hz, r1, k1⟩; subst hz; have E1 := Lib.hid (HE0.out.keep k1 hEB); have Q1 := Lib.hid (r1.set (i := 0) (v := .string xs) hBE); have E1' : Hid (EB (w1.setCell ⟨E, 0, none⟩ (.string xs)) E xs ⟨#[]⟩ ⟨#[]⟩ 0 (.slice none 0 0)) := Go.Joins.block_setCell E1.out _; have K1 := Lib.hid (kk_set (i := 0) (kk_call K0.out k1) (.string xs)); clear c0 c1 c2 c3 c4; obtain ⟨c0, c1, c2, c3, c4⟩ := E1.out.at5; obtain ⟨g0, g1', g2', g3', g4'⟩ := E1.out.fz; clear r1 k1)
    | (go_at_call 59; refine (F2.out _ Q1.out).mono ?_; clear F2; rintro z w2 ⟨hz, r1, k1⟩; subst hz; have E2 := Lib.hid (E1'.out.keep k1 hEB); have Q2 := Lib.hid (r1.set (i := 1) (v := .string xd) hBE); have E2' : Hid (EB (w2.setCell ⟨E, 1, none⟩ (.string xd)) E xs xd ⟨#[]⟩ 0 (.slice none 0 0)) := Go.Joins.block_setCell E2.out _; have K2 := Lib.hid (kk_set (i := 1) (kk_call K1.out k1) (.string xd)); clear c0 c1 c2 c3 c4 g0 g1' g2' g3' g4'; obtain ⟨c0, c1, c2, c3, c4⟩ := E2.out.at5; obtain ⟨g0, g1', g2', g3', g4'⟩ := E2.out.fz; clear r1 k1)
    | (go_at_call 59; refine (F3.out _ Q2.out).mono ?_; clear F3; rintro z w3 ⟨hz, r1, k1⟩; subst hz; have E3 := Lib.hid (E2'.out.keep k1 hEB); have Q3 := Lib.hid (r1.set (i := 2) (v := .string xl) hBE); have E3' : Hid (EB (w3.setCell ⟨E, 2, none⟩ (.string xl)) E xs xd xl 0 (.slice none 0 0)) := Go.Joins.block_setCell E3.out _; have K3 := Lib.hid (kk_set (i := 2) (kk_call K2.out k1) (.string xl)); clear c0 c1 c2 c3 c4 g0 g1' g2' g3' g4'; obtain ⟨c0, c1, c2, c3, c4⟩ := E3.out.at5; obtain ⟨g0, g1', g2', g3', g4'⟩ := E3.out.fz; clear r1 k1)
    | (go_at_call 60; refine (F4.out _ Q3.out).mono ?_; clear F4; rintro z w4 ⟨hz, r1, k1⟩; subst hz; have E4 := Lib.hid (E3'.out.keep k1 hEB); have Q4 := Lib.hid (r1.set (i := 3) (v := .int .i64 xt) hBE); have E4' : Hid (EB (w4.setCell ⟨E, 3, none⟩ (.int .i64 xt)) E xs xd xl xt (.slice none 0 0)) := Go.Joins.block_setCell E4.out _; have K4 := Lib.hid (kk_set (i := 3) (kk_call K3.out k1) (.int .i64 xt)); clear c0 c1 c2 c3 c4 g0 g1' g2' g3' g4'; obtain ⟨c0, c1, c2, c3, c4⟩ := E4.out.at5; obtain ⟨g0, g1', g2', g3', g4'⟩ := E4.out.fz; clear r1 k1)
    | (go_at_call 61; refine (F5.out _ Q4.out).mono ?_; clear F5; rintro z w5 ⟨A5, c5, hz, hb5, r1, k1, hfar⟩; subst hz; have E5 := Lib.hid (E4'.out.keep k1 hEB); have Q5 := Lib.hid r1; have K5 := Lib.hid (kk_call K4.out k1); obtain ⟨ad, hA5, hadl, hadc⟩ := byte_of hb5 HT.out.1; subst hA5; have HAD := Lib.hid (And.intro hadc (And.intro hadl (hfar (by omega) ad rfl))); have HSE := Lib.hid E4'.out.lt; clear c0 c1 c2 c3 c4 g0 g1' g2' g3' g4' r1 k1 hb5 hfar)
    | fail)
  obtain ⟨i0, hi, hz0, hz1, hz2⟩ := info_parts53
  have hadc := HAD.out.1
  have hadE : ad.block ≠ E := by
    rcases HAD.out.2.2 with h | h
    · omega
    · have := HSE.out; omega
  have hadB : ad.block ≠ B := by
    rcases HAD.out.2.2 with h | h
    · omega
    · have := HSE.out; omega
  have hE5 : E < w5.heap.size := E5.out.lt
  go_loopw [7] (fun i wr => ∃ (k : Nat) (pv : Value), k ≤ n ∧ i = .int .i64 k ∧ EB wr E xs xd xl xt pv ∧ wr.ownsRow w5.heap.size 53 4 pv k (flatP (rPs k s5).1) ∧ RdQ wr B (rPs k s5).2 ∧ Keep (fun j => j ≠ B ∧ j ≠ E) w5 wr) (fun i _ => n - (Lib.intOf i).toNat)
  case atStart => exact ⟨0, .slice none 0 0, Nat.zero_le _, rfl, E5.out, by simpa [rPs, flatP] using World.ownsRow_nil w5 w5.heap.size 53 4, Q5.out, Keep.refl _ _⟩
  case round =>
    obtain ⟨k, pv, hk, rfl, heb, hown, hrd, hkp⟩ := hrel
    have hsz := hkp.size
    have kadc : wr.cell? ad = some (.int .u8 (n : Int)) := (World.cell?_of_block (a := ad) (hkp.block ad.block HAD.out.2.1 ⟨hadB, hadE⟩)).trans hadc
    by_cases hlt : k < n
    · have HEBr := Lib.hid heb
      have HOW := Lib.hid hown
      have HRD := Lib.hid hrd
      have HKP := Lib.hid hkp
      have hB5 : B < w5.heap.size := by omega
      have hErr : E < wr.heap.size := heb.lt
      have hBD : B < wr.heap.size := by omega
      have hDB : wr.heap.size ≠ B := by omega
      have hlr : (rPs k s5).2.1.length ≤ 281474976710656 := Nat.le_trans (rPs_le k s5) HL5.out
      have q1 := fun W (hW : RdQ W B (rPs k s5).2) => rtext_any hW hlr
      have hlv : (rT (rPs k s5).2).2.1.length ≤ 281474976710656 := Nat.le_trans (rT_le _) hlr
      have q2 := fun W (hW : RdQ W B (rT (rPs k s5).2).2) => take_any hW 1 (by omega) hlv
      have hlt2 : (tk 1 (rT (rPs k s5).2).2).2.1.length ≤ 281474976710656 := Nat.le_trans (tk_le _ _) hlv
      have q3 := fun W (hW : RdQ W B (tk 1 (rT (rPs k s5).2).2).2) => rnumber_any hW hlt2
      have q4 := fun W (hW : RdQ W B (tk 1 (rT (rPs k s5).2).2).2) => rtext_any hW hlt2
      have hT2 : byC (tk 1 (rT (rPs k s5).2).2).1 = [.int .u8 ((b0 (tk 1 (rT (rPs k s5).2).2).1).toNat : Int)] := by
        have hx := b0_one (tk_len 1 (rT (rPs k s5).2).2)
        rw [hx]
        rfl
      have hst : rPs (k + 1) s5 = ((rPs k s5).1 ++ [((rT (rPs k s5).2).1, (rV (rT (rPs k s5).2).2).1)], (rV (rT (rPs k s5).2).2).2) := rfl
      have hq256 : (b0 (tk 1 (rT (rPs k s5).2).2).1).toNat < 256 := UInt8.toNat_lt _
      have hnb := And.intro (beN_bound (tk 6 (tk 1 (rT (rPs k s5).2).2).2).1).1 (beN_small (l := (tk 6 (tk 1 (rT (rPs k s5).2).2).2).1) (by rw [tk_len]; exact Nat.le_refl _))
      have hrn : (rN (tk 1 (rT (rPs k s5).2).2).2).1 = beN (tk 6 (tk 1 (rT (rPs k s5).2).2).2).1 := rfl
      rw [← hrn] at hnb
      unfold rV at hst
      unfold RTextR at q1 q4
      unfold TakeR at q2
      unfold RNumR at q3
      clear hrn hlr hlv hlt2 hkp
      generalize (b0 (tk 1 (rT (rPs k s5).2).2).1).toNat = q at *
      generalize (tk 1 (rT (rPs k s5).2).2).1 = T2 at *
      generalize (tk 1 (rT (rPs k s5).2).2).2 = st at *
      generalize (rN st).1 = xn at *
      generalize hs6n : (rN st).2 = s6n at *
      generalize (rT st).1 = xtx at *
      generalize hs6t : (rT st).2 = s6t at *
      generalize (rT (rPs k s5).2).1 = xk at *
      generalize (rT (rPs k s5).2).2 = sv at *
      generalize rPs k s5 = rk at *
      obtain ⟨ps, sk⟩ := rk
      simp only at *
      clear hs6n hs6t
      have HT2 := Lib.hid hT2
      have G1 := Lib.hid q1
      have G2 := Lib.hid q2
      have hDB0 : DB (wr.alloc (.cells #[.string ⟨#[]⟩, .int .i64 0, .int .i64 0, .string ⟨#[]⟩] 53)) wr.heap.size (⟨#[]⟩, 0, 0, ⟨#[]⟩) := heap_alloc_new wr _
      have HDB0 := Lib.hid hDB0
      have hal : Keep (fun j => j ≠ B) wr (wr.alloc (.cells #[.string ⟨#[]⟩, .int .i64 0, .int .i64 0, .string ⟨#[]⟩] 53)) := keepB_below ((Below.refl _ wr).alloc (Nat.le_refl _) _)
      have HAL := Lib.hid hal
      have HRDa := Lib.hid (hrd.below ((Below.refl _ wr).alloc (Nat.le_refl _) (.cells #[.string ⟨#[]⟩, .int .i64 0, .int .i64 0, .string ⟨#[]⟩] 53)))
      clear heb hown hrd hDB0 hal hT2 q1 q2
      by_cases hq1 : (q : Int) = 1
      · rw [if_pos hq1] at hst
        have HST := Lib.hid hst
        have G3 := Lib.hid q3
        obtain rfl : q = 1 := by omega
        have hwx : IntKind.i64.wrap (xn - 1099511627776) = xn - 1099511627776 := by rw [IntKind.wrap_i64]; omega
        clear q3 q4 hst hq256 hq1
        go_upto_region 18 with (first
        | (go_at_call 59; refine (G1.out _ HRDa.out).mono ?_; clear G1; rintro z wA ⟨hz, r1, k1⟩; subst hz; have DA := Lib.hid (HDB0.out.keep k1 hDB); have QA := Lib.hid (r1.set (i := 0) (v := .string xk) hBD); have DA' : Hid (DB (wA.setCell ⟨wr.heap.size, 0, none⟩ (.string xk)) wr.heap.size (xk, 0, 0, ⟨#[]⟩)) := Go.Joins.block_setCell DA.out _; have KA := Lib.hid ((keepB_trans HAL.out k1).set_new (i := 0) (Nat.le_refl _) (.string xk)); obtain ⟨a0, a1, a2, a3⟩ := DA.out.at4; obtain ⟨y0, y1, y2, y3⟩ := DA.out.fz; clear r1 k1)
        | (go_at_call 61; refine (G2.out _ QA.out).mono ?_; clear G2; rintro z wB ⟨A2, cc2, hz, hb2, r1, k1, _⟩; subst hz; obtain ⟨ad2, hA2, _, hadc2⟩ := byte_of hb2 HT2.out; subst hA2; have hadc3 : wB.cell? ad2 = some (.int .u8 1) := hadc2; clear hadc2; have DB2 := Lib.hid (DA'.out.keep k1 hDB); have QB := Lib.hid (r1.set (i := 1) (v := .int .i64 1) hBD); have DB2' : Hid (DB (wB.setCell ⟨wr.heap.size, 1, none⟩ (.int .i64 1)) wr.heap.size (xk, 1, 0, ⟨#[]⟩)) := Go.Joins.block_setCell DB2.out _; have KB := Lib.hid ((keepB_trans KA.out k1).set_new (i := 1) (Nat.le_refl _) (.int .i64 1)); clear a0 a1 a2 a3 y0 y1 y2 y3; obtain ⟨a0, a1, a2, a3⟩ := DB2.out.at4; obtain ⟨y0, y1, y2, y3⟩ := DB2.out.fz; clear r1 k1 hb2)
        | (go_at_call 60; refine (G3.out _ QB.out).mono ?_; clear G3; rintro z wC ⟨hz, r1, k1⟩; subst hz; have DC := Lib.hid (DB2'.out.keep k1 hDB); have QC := Lib.hid (r1.set (i := 2) (v := .int .i64 (xn - 1099511627776)) hBD); have DC' : Hid (DB (wC.setCell ⟨wr.heap.size, 2, none⟩ (.int .i64 (xn - 1099511627776))) wr.heap.size (xk, 1, xn - 1099511627776, ⟨#[]⟩)) := Go.Joins.block_setCell DC.out _; have KC := Lib.hid ((keepB_trans KB.out k1).set_new (i := 2) (Nat.le_refl _) (.int .i64 (xn - 1099511627776))); clear a0 a1 a2 a3 y0 y1 y2 y3; obtain ⟨a0, a1, a2, a3⟩ := DC.out.at4; obtain ⟨y0, y1, y2, y3⟩ := DC.out.fz; clear r1 k1)
        | fail)
        clear a0 a1 a2 a3 y0 y1 y2 y3
        generalize wC.setCell ⟨wr.heap.size, 2, none⟩ (.int .i64 (xn - 1099511627776)) = W7 at *
        obtain ⟨a0, a1, a2, a3⟩ := DC'.out.at4
        simp only at a0 a1 a2 a3
        have HOW7 := Lib.hid (show W7.ownsRow w5.heap.size 53 4 pv k (flatP ps) from own_keepB HOW.out KC.out hB5)
        have HZ7 := Lib.hid (show w5.heap.size ≤ W7.heap.size from Nat.le_trans hsz KC.out.size)
        have HEW := Lib.hid (show EB W7 E xs xd xl xt pv from HEBr.out.keep KC.out hEB)
        have e4 := HEW.out.at5.2.2.2.2
        have HE9 : Hid (∀ w9, (W7.alloc (.cells #[.string ((xk, 1, xn - 1099511627776, ⟨#[]⟩) : Pt).1, .int .i64 ((xk, 1, xn - 1099511627776, ⟨#[]⟩) : Pt).2.1, .int .i64 ((xk, 1, xn - 1099511627776, ⟨#[]⟩) : Pt).2.2.1, .string ((xk, 1, xn - 1099511627776, ⟨#[]⟩) : Pt).2.2.2] 53)).grownBy w9 pv.ownBlock → EB w9 E xs xd xl xt pv) := fun w9 hg => (hg.block E (by rw [World.size_alloc]; exact Nat.lt_succ_of_lt HEW.out.lt) (fun e => by have := own_base HOW.out E e.symm; omega)).trans ((Below.heap_alloc _ _ E HEW.out.lt).trans HEW.out)
        go_wp2_with (first | (at_builtin; refine wpList_append_pr (v := pv) rfl _ _ rfl (base := w5.heap.size) Try.underlying22 hi hz0 hz1 hz2 rfl (HOW7.out.alloc _) rfl (PR.one _ ((xk, 1, xn - 1099511627776, ⟨#[]⟩) : Pt) 53) (by simp; omega) (by rw [World.size_alloc]; exact Nat.le_succ_of_le HZ7.out) ?_; intro v9 w9 hown9 hgrow9 hat9; obtain ⟨g9, c9, hv9⟩ := own_some (show w9.ownsRow w5.heap.size 53 4 v9 (k + 1) (flatP ps ++ flatP [((xk, 1, xn - 1099511627776, ⟨#[]⟩) : Pt)]) from hown9); subst hv9; have H9 := Lib.hid (And.intro hown9 hgrow9); have hb9 := HE9.out w9 hgrow9; have m4 := (EB.at5 hb9).2.2.2.2; have m5 := (EB.fz hb9).2.2.2.2; have HB9 := Lib.hid hb9; clear hown9 hgrow9 hat9 hb9) | fail)
        · have K9 : Keep (fun j => j ≠ B ∧ j ≠ E) w5 (w9.setCell ⟨E, 4, none⟩ (.slice (some ⟨g9, 0, none⟩) (k + 1) c9)) := by
            have hs9 := H9.out.2.size
            rw [World.size_alloc] at hs9
            have hzW := KC.out.size
            refine ⟨(H9.out.2.os.trans KC.out.os).trans HKP.out.os, (H9.out.2.tape.trans KC.out.tape).trans HKP.out.tape, (H9.out.2.output.trans KC.out.output).trans HKP.out.output, by simp; omega, fun j hj hp => ?_⟩
            have hjo : some j ≠ pv.ownBlock := fun e => by have := own_base HOW.out j e.symm; omega
            rw [Below.heap_setCell _ _ _ _ hp.2]
            exact ((H9.out.2.block j (by rw [World.size_alloc]; omega) hjo).trans (Below.heap_alloc _ _ j (by omega))).trans ((KC.out.block j (by omega) hp.1).trans (HKP.out.block j hj hp))
          have hQ9 : RdQ (w9.setCell ⟨E, 4, none⟩ (.slice (some ⟨g9, 0, none⟩) (k + 1) c9)) B s6n := by
            refine RdQ.set ?_ hBE
            refine QC.out.keep (p := fun j => j ≤ B) ⟨H9.out.2.os, H9.out.2.tape, H9.out.2.output, by have := H9.out.2.size; rw [World.size_alloc] at this; omega, fun j hj hp => ?_⟩ (fun j hj => hj)
            have hjo : some j ≠ pv.ownBlock := fun e => by have := own_base HOW.out j e.symm; omega
            exact (H9.out.2.block j (by rw [World.size_alloc]; omega) hjo).trans (Below.heap_alloc _ _ j hj)
          have hO9 := ownsRow_setCell_below (show w9.ownsRow w5.heap.size 53 4 (.slice (some ⟨g9, 0, none⟩) (k + 1) c9) (k + 1) (flatP (ps ++ [((xk, 1, xn - 1099511627776, ⟨#[]⟩) : Pt)])) by rw [flatP_app]; exact H9.out.1) (a := ⟨E, 4, none⟩) hE5 (.slice (some ⟨g9, 0, none⟩) (k + 1) c9)
          have hB9 : EB (w9.setCell ⟨E, 4, none⟩ (.slice (some ⟨g9, 0, none⟩) (k + 1) c9)) E xs xd xl xt (.slice (some ⟨g9, 0, none⟩) (k + 1) c9) := Go.Joins.block_setCell HB9.out _
          have HFIN := Lib.hid (And.intro hB9 (And.intro hO9 (And.intro hQ9 K9)))
          clear K9 hQ9 hO9 hB9
          go_wp2_with fail
          go_roundw
          case rel => exact ⟨k + 1, _, by omega, by go_num, HFIN.out.1, by rw [HST.out]; exact HFIN.out.2.1, by rw [HST.out]; exact HFIN.out.2.2.1, HFIN.out.2.2.2⟩
          case measure => simp [Lib.intOf]; omega
      · rw [if_neg hq1] at hst
        have HST := Lib.hid hst
        have G3 := Lib.hid q4
        have hq1' : ¬ q = 1 := by omega
        clear q3 q4 hst
        go_upto_region 18 with (first
        | (go_at_call 59; refine (G1.out _ HRDa.out).mono ?_; clear G1; rintro z wA ⟨hz, r1, k1⟩; subst hz; have DA := Lib.hid (HDB0.out.keep k1 hDB); have QA := Lib.hid (r1.set (i := 0) (v := .string xk) hBD); have DA' : Hid (DB (wA.setCell ⟨wr.heap.size, 0, none⟩ (.string xk)) wr.heap.size (xk, 0, 0, ⟨#[]⟩)) := Go.Joins.block_setCell DA.out _; have KA := Lib.hid ((keepB_trans HAL.out k1).set_new (i := 0) (Nat.le_refl _) (.string xk)); obtain ⟨a0, a1, a2, a3⟩ := DA.out.at4; obtain ⟨y0, y1, y2, y3⟩ := DA.out.fz; clear r1 k1)
        | (go_at_call 61; refine (G2.out _ QA.out).mono ?_; clear G2; rintro z wB ⟨A2, cc2, hz, hb2, r1, k1, _⟩; subst hz; obtain ⟨ad2, hA2, _, hadc2⟩ := byte_of hb2 HT2.out; subst hA2; have DB2 := Lib.hid (DA'.out.keep k1 hDB); have QB := Lib.hid (r1.set (i := 1) (v := .int .i64 q) hBD); have DB2' : Hid (DB (wB.setCell ⟨wr.heap.size, 1, none⟩ (.int .i64 q)) wr.heap.size (xk, q, 0, ⟨#[]⟩)) := Go.Joins.block_setCell DB2.out _; have KB := Lib.hid ((keepB_trans KA.out k1).set_new (i := 1) (Nat.le_refl _) (.int .i64 q)); clear a0 a1 a2 a3 y0 y1 y2 y3; obtain ⟨a0, a1, a2, a3⟩ := DB2.out.at4; obtain ⟨y0, y1, y2, y3⟩ := DB2.out.fz; clear r1 k1 hb2)
        | (go_at_call 59; refine (G3.out _ QB.out).mono ?_; clear G3; rintro z wC ⟨hz, r1, k1⟩; subst hz; have DC := Lib.hid (DB2'.out.keep k1 hDB); have QC := Lib.hid (r1.set (i := 3) (v := .string xtx) hBD); have DC' : Hid (DB (wC.setCell ⟨wr.heap.size, 3, none⟩ (.string xtx)) wr.heap.size (xk, (q : Int), 0, xtx)) := Go.Joins.block_setCell DC.out _; have KC := Lib.hid ((keepB_trans KB.out k1).set_new (i := 3) (Nat.le_refl _) (.string xtx)); clear a0 a1 a2 a3 y0 y1 y2 y3; obtain ⟨a0, a1, a2, a3⟩ := DC.out.at4; obtain ⟨y0, y1, y2, y3⟩ := DC.out.fz; clear r1 k1)
        | fail)
        clear a0 a1 a2 a3 y0 y1 y2 y3
        generalize wC.setCell ⟨wr.heap.size, 3, none⟩ (.string xtx) = W7 at *
        obtain ⟨a0, a1, a2, a3⟩ := DC'.out.at4
        simp only at a0 a1 a2 a3
        have HOW7 := Lib.hid (show W7.ownsRow w5.heap.size 53 4 pv k (flatP ps) from own_keepB HOW.out KC.out hB5)
        have HZ7 := Lib.hid (show w5.heap.size ≤ W7.heap.size from Nat.le_trans hsz KC.out.size)
        have HEW := Lib.hid (show EB W7 E xs xd xl xt pv from HEBr.out.keep KC.out hEB)
        have e4 := HEW.out.at5.2.2.2.2
        have HE9 : Hid (∀ w9, (W7.alloc (.cells #[.string ((xk, (q : Int), 0, xtx) : Pt).1, .int .i64 ((xk, (q : Int), 0, xtx) : Pt).2.1, .int .i64 ((xk, (q : Int), 0, xtx) : Pt).2.2.1, .string ((xk, (q : Int), 0, xtx) : Pt).2.2.2] 53)).grownBy w9 pv.ownBlock → EB w9 E xs xd xl xt pv) := fun w9 hg => (hg.block E (by rw [World.size_alloc]; exact Nat.lt_succ_of_lt HEW.out.lt) (fun e => by have := own_base HOW.out E e.symm; omega)).trans ((Below.heap_alloc _ _ E HEW.out.lt).trans HEW.out)
        go_wp2_with (first | (at_builtin; refine wpList_append_pr (v := pv) rfl _ _ rfl (base := w5.heap.size) Try.underlying22 hi hz0 hz1 hz2 rfl (HOW7.out.alloc _) rfl (PR.one _ ((xk, (q : Int), 0, xtx) : Pt) 53) (by simp; omega) (by rw [World.size_alloc]; exact Nat.le_succ_of_le HZ7.out) ?_; intro v9 w9 hown9 hgrow9 hat9; obtain ⟨g9, c9, hv9⟩ := own_some (show w9.ownsRow w5.heap.size 53 4 v9 (k + 1) (flatP ps ++ flatP [((xk, (q : Int), 0, xtx) : Pt)]) from hown9); subst hv9; have H9 := Lib.hid (And.intro hown9 hgrow9); have hb9 := HE9.out w9 hgrow9; have m4 := (EB.at5 hb9).2.2.2.2; have m5 := (EB.fz hb9).2.2.2.2; have HB9 := Lib.hid hb9; clear hown9 hgrow9 hat9 hb9) | fail)
        · have K9 : Keep (fun j => j ≠ B ∧ j ≠ E) w5 (w9.setCell ⟨E, 4, none⟩ (.slice (some ⟨g9, 0, none⟩) (k + 1) c9)) := by
            have hs9 := H9.out.2.size
            rw [World.size_alloc] at hs9
            have hzW := KC.out.size
            refine ⟨(H9.out.2.os.trans KC.out.os).trans HKP.out.os, (H9.out.2.tape.trans KC.out.tape).trans HKP.out.tape, (H9.out.2.output.trans KC.out.output).trans HKP.out.output, by simp; omega, fun j hj hp => ?_⟩
            have hjo : some j ≠ pv.ownBlock := fun e => by have := own_base HOW.out j e.symm; omega
            rw [Below.heap_setCell _ _ _ _ hp.2]
            exact ((H9.out.2.block j (by rw [World.size_alloc]; omega) hjo).trans (Below.heap_alloc _ _ j (by omega))).trans ((KC.out.block j (by omega) hp.1).trans (HKP.out.block j hj hp))
          have hQ9 : RdQ (w9.setCell ⟨E, 4, none⟩ (.slice (some ⟨g9, 0, none⟩) (k + 1) c9)) B s6t := by
            refine RdQ.set ?_ hBE
            refine QC.out.keep (p := fun j => j ≤ B) ⟨H9.out.2.os, H9.out.2.tape, H9.out.2.output, by have := H9.out.2.size; rw [World.size_alloc] at this; omega, fun j hj hp => ?_⟩ (fun j hj => hj)
            have hjo : some j ≠ pv.ownBlock := fun e => by have := own_base HOW.out j e.symm; omega
            exact (H9.out.2.block j (by rw [World.size_alloc]; omega) hjo).trans (Below.heap_alloc _ _ j hj)
          have hO9 := ownsRow_setCell_below (show w9.ownsRow w5.heap.size 53 4 (.slice (some ⟨g9, 0, none⟩) (k + 1) c9) (k + 1) (flatP (ps ++ [((xk, (q : Int), 0, xtx) : Pt)])) by rw [flatP_app]; exact H9.out.1) (a := ⟨E, 4, none⟩) hE5 (.slice (some ⟨g9, 0, none⟩) (k + 1) c9)
          have hB9 : EB (w9.setCell ⟨E, 4, none⟩ (.slice (some ⟨g9, 0, none⟩) (k + 1) c9)) E xs xd xl xt (.slice (some ⟨g9, 0, none⟩) (k + 1) c9) := Go.Joins.block_setCell HB9.out _
          have HFIN := Lib.hid (And.intro hB9 (And.intro hO9 (And.intro hQ9 K9)))
          clear K9 hQ9 hO9 hB9
          go_wp2_with fail
          go_roundw
          case rel => exact ⟨k + 1, _, by omega, by go_num, HFIN.out.1, by rw [HST.out]; exact HFIN.out.2.1, by rw [HST.out]; exact HFIN.out.2.2.1, HFIN.out.2.2.2⟩
          case measure => simp [Lib.intOf]; omega
    · obtain rfl : k = n := by omega
      have HRE2 := Lib.hid (show rE (l, false) = (⟨xs, xd, xl, xt, (rPs k s5).1⟩, (rPs k s5).2) from HRE.out)
      have hnum := rPs_num k s5
      generalize rPs k s5 = rk at *
      obtain ⟨ps, lf, bf⟩ := rk
      simp only at *
      have hpe : rParse l = if bf = true ∨ lf ≠ [] ∨ checkE ⟨xs, xd, xl, xt, ps⟩ ≠ 0 then (zeroE, 4) else (⟨xs, xd, xl, xt, ps⟩, 0) := by
        rw [HP.out, HRE2.out]
      have hse : SzE ⟨xs, xd, xl, xt, ps⟩ := by
        have := HSZ.out
        rw [HRE2.out] at this
        exact this
      have HPE := Lib.hid hpe
      obtain ⟨vr, hblk, Ar, cr, rfl, _⟩ := hrd.ex
      have r0 : wr.cell? ⟨B, 0, none⟩ = some (.slice Ar lf.length cr) := by rw [cell_of_row _ _ 0 _ 76 (0, 0) hblk]; rfl
      have r1 : wr.cell? ⟨B, 1, none⟩ = some (.bool bf) := by rw [cell_of_row _ _ 1 _ 76 (0, 0) hblk]; rfl
      have hz := HZ0.out
      have hq := HEQ.out
      have h05 := K5.out.size
      have hRr : wr.heap[N]? = some (.cells #[.string ⟨#[]⟩, .string ⟨#[]⟩, .string ⟨#[]⟩, .int .i64 0, .slice none 0 0] 24 (0, 0)) :=
        (hkp.block N (by omega) ⟨by omega, by omega⟩).trans ((K5.out.block N (by omega) ⟨by omega, by omega⟩).trans HRes.out)
      have hbel : Below N w wr := by
        refine HB0.out.trans ⟨hkp.os.trans K5.out.os, hkp.tape.trans K5.out.tape, hkp.output.trans K5.out.output, Nat.le_trans h05 hkp.size, fun j hj => ?_⟩
        exact (hkp.block j (by omega) ⟨by omega, by omega⟩).trans (K5.out.block j (by omega) ⟨by omega, by omega⟩)
      have HRr := Lib.hid hRr
      have HBEL := Lib.hid hbel
      have hpr := PR.of_own hown
      obtain ⟨Ap, cp, rfl⟩ := row_form4' hown
      have HPR := Lib.hid hpr
      have HEBr := Lib.hid heb
      have HNE := Lib.hid (fun gg hgg => (show gg ≠ N by have := own_base hown gg hgg; omega))
      obtain ⟨d0, d1, d2, d3, d4, _⟩ := Bx5.of hRr
      obtain ⟨f0, f1, f2, f3, f4⟩ := Fx5.of hRr
      obtain ⟨c0, c1, c2, c3, c4⟩ := heb.at5
      have hNE : E ≠ N := by omega
      have HNW := Lib.hid (show w.heap.size ≤ N by rw [HNN.out]; exact Nat.le_refl _)
      clear hblk hbel hRr hown heb hrd hkp hpe hz hq h05 hnum hpr
      cases bf with
      | true =>
        have HPZ := Lib.hid (show rParse l = (zeroE, 4) by rw [HPE.out, if_pos (.inl rfl)])
        go_wp2_with fail
        exact bodyPost_ret (v := .tuple #[.agg #[.string ⟨#[]⟩, .string ⟨#[]⟩, .string ⟨#[]⟩, .int .i64 0, .slice none 0 0], .int .i64 4]) (by simp [results, Try.results26, go_sem, d0, d1, d2, d3, d4, f0, f1, f2, f3, f4]) rfl ⟨.slice none 0 0, by rw [HPZ.out]; rfl, by rw [HPZ.out]; exact PR.nil _ _ _, by rw [HNN.out]; exact HBEL.out.trans (below_set5 (Nat.le_refl _) _ _ _ _ _)⟩
      | false =>
        by_cases hl0 : lf = []
        · subst hl0
          have f17 := rCheck_any (e := ⟨xs, xd, xl, xt, ps⟩) HPR.out hse
          unfold RCheckR Ed.v at f17
          simp only at f17
          by_cases hc0 : checkE ⟨xs, xd, xl, xt, ps⟩ = 0
          · rw [hc0] at f17
            have HPZ := Lib.hid (show rParse l = (⟨xs, xd, xl, xt, ps⟩, 0) by rw [HPE.out, if_neg (by simp [hc0])])
            have F17 := Lib.hid f17
            clear f17 hc0
            go_wp2_with (go_at_call 17; refine F17.out.mono ?_; clear F17; rintro z wz ⟨hz, hgz⟩; subst hz; have HGZ := Lib.hid hgz.below; clear d0 d1 d2 d3 d4 f0 f1 f2 f3 f4 c0 c1 c2 c3 c4; have hRz := heap_keep HGZ.out HRr.out; have hEz := heap_keep HGZ.out HEBr.out; obtain ⟨d0, d1, d2, d3, d4, _⟩ := Bx5.of hRz; obtain ⟨f0, f1, f2, f3, f4⟩ := Fx5.of hRz; obtain ⟨c0, c1, c2, c3, c4⟩ := EB.at5 hEz; clear hRz hEz hgz)
            exact bodyPost_ret (v := .tuple #[.agg #[.string xs, .string xd, .string xl, .int .i64 xt, .slice Ap k cp], .int .i64 0]) (by simp [results, Try.results26, go_sem, d0, d1, d2, d3, d4, f0, f1, f2, f3, f4]) rfl ⟨.slice Ap k cp, by rw [HPZ.out]; rfl, by rw [HPZ.out]; exact (HPR.out.below HGZ.out).keep (set5_keep _ _ _ _ _ _ _) (fun _ gg hgg _ => HNE.out gg hgg), by rw [HNN.out]; exact (HBEL.out.trans (HGZ.out.mono (by have := HBEL.out.size; have := HNN.out; omega))).trans (below_set5 (Nat.le_refl _) _ _ _ _ _)⟩
          · have HPZ := Lib.hid (show rParse l = (zeroE, 4) by rw [HPE.out, if_pos (.inr (.inr hc0))])
            generalize checkE ⟨xs, xd, xl, xt, ps⟩ = cc at f17 hc0
            have hcc : (cc != 0) = true := by simpa using hc0
            have F17 := Lib.hid f17
            clear f17 hc0 HPE
            go_wp2_with (go_at_call 17; refine F17.out.mono ?_; clear F17; rintro z wz ⟨hz, hgz⟩; subst hz; have HGZ := Lib.hid hgz.below; clear d0 d1 d2 d3 d4 f0 f1 f2 f3 f4 c0 c1 c2 c3 c4; have hRz := heap_keep HGZ.out HRr.out; obtain ⟨d0, d1, d2, d3, d4, _⟩ := Bx5.of hRz; obtain ⟨f0, f1, f2, f3, f4⟩ := Fx5.of hRz; clear hRz hgz)
            exact bodyPost_ret (v := .tuple #[.agg #[.string ⟨#[]⟩, .string ⟨#[]⟩, .string ⟨#[]⟩, .int .i64 0, .slice none 0 0], .int .i64 4]) (by simp [results, Try.results26, go_sem, d0, d1, d2, d3, d4, f0, f1, f2, f3, f4]) rfl ⟨.slice none 0 0, by rw [HPZ.out]; rfl, by rw [HPZ.out]; exact PR.nil _ _ _, by rw [HNN.out]; exact (HBEL.out.trans (HGZ.out.mono (by have := HBEL.out.size; have := HNN.out; omega))).trans (below_set5 (Nat.le_refl _) _ _ _ _ _)⟩
        · have HPZ := Lib.hid (show rParse l = (zeroE, 4) by rw [HPE.out, if_pos (.inr (.inl hl0))])
          obtain ⟨q, hq⟩ : ∃ q, lf.length = q := ⟨_, rfl⟩
          have hq0 : 0 < q := by rw [← hq]; exact List.length_pos_iff.2 hl0
          have hqi : (0 : Int) < (q : Int) := by omega
          rw [hq] at r0
          clear hq hl0 HPE
          go_wp2_with fail
          exact bodyPost_ret (v := .tuple #[.agg #[.string ⟨#[]⟩, .string ⟨#[]⟩, .string ⟨#[]⟩, .int .i64 0, .slice none 0 0], .int .i64 4]) (by simp [results, Try.results26, go_sem, d0, d1, d2, d3, d4, f0, f1, f2, f3, f4]) rfl ⟨.slice none 0 0, by rw [HPZ.out]; rfl, by rw [HPZ.out]; exact PR.nil _ _ _, by rw [HNN.out]; exact HBEL.out.trans (below_set5 (Nat.le_refl _) _ _ _ _ _)⟩
end Go.Proofs.Ytpoefcpgcojppaa
