/- Texts RE, TB, UM, VA, one behind the other. -/
import Derived.Test.YtpoefcpgcojppaaM0
import Derived.Test.YtpoefcpgcojppaaM1
import Derived.Test.YtpoefcpgcojppaaM2
import Derived.Test.YtpoefcpgcojppaaM3
import Derived.Test.YtpoefcpgcojppaaM4
import Derived.Test.YtpoefcpgcojppaaM5
import Derived.Test.YtpoefcpgcojppaaM6
import Derived.Test.YtpoefcpgcojppaaM7
import Derived.Test.YtpoefcpgcojppaaM8
set_option linter.unusedSimpArgs false
namespace Go.Proofs.Ytpoefcpgcojppaa
open Go.ChangeShapes Go.WideShapes Go.ChangeAt Go.RowKit
set_option linter.unusedVariables false

theorem rT_small (s : Rs) : (rT s).1.size ≤ 255 := by
  have h := tk_len (b0 (tk 1 s).1).toNat (tk 1 s).2
  have h2 := (b0 (tk 1 s).1).toNat_lt
  show (List.toArray _).size ≤ _
  rw [List.size_toArray]
  omega
theorem rPs_num : ∀ n (s : Rs), (rPs n s).1.length = n
  | 0, s => rfl
  | n + 1, s => by show ((rPs n s).1 ++ [_]).length = _; simp [rPs_num n s]
theorem rT_le (s : Rs) : (rT s).2.1.length ≤ s.1.length := by unfold rT; exact Nat.le_trans (tk_le _ _) (tk_le _ _)
theorem rN_le (s : Rs) : (rN s).2.1.length ≤ s.1.length := by unfold rN; exact tk_le _ _
theorem rV_le (s : Rs) : (rV s).2.1.length ≤ s.1.length := by
  unfold rV
  split
  · exact Nat.le_trans (rN_le _) (tk_le _ _)
  · exact Nat.le_trans (rT_le _) (tk_le _ _)
theorem rPs_le : ∀ n (s : Rs), (rPs n s).2.1.length ≤ s.1.length
  | 0, s => Nat.le_refl _
  | n + 1, s => Nat.le_trans (Nat.le_trans (rV_le _) (rT_le _)) (rPs_le n s)
theorem rE_sz (s : Rs) : SzE (rE s).1 := by
  refine ⟨Nat.le_trans (rT_small _) (by omega), Nat.le_trans (rT_small _) (by omega), Nat.le_trans (rT_small _) (by omega), ?_, ?_⟩
  · show (rPs (hN s) (h5 s)).1.length ≤ _
    rw [rPs_num]
    have h2 := (b0 (tk 1 (h4 s)).1).toNat_lt
    unfold hN
    omega
  · have h : ∀ n (b : Rs), ∀ p ∈ (rPs n b).1, p.1.size ≤ 281474976710656 ∧ p.2.2.2.size ≤ 281474976710656 := by
      intro n
      induction n with
      | zero => intro b p hp; simp [rPs] at hp
      | succ n ih =>
        intro b p hp
        have hp' : p ∈ (rPs n b).1 ++ [(rP (rPs n b).2).1] := hp
        rcases List.mem_append.1 hp' with h1 | h1
        · exact ih b p h1
        · have h2 := List.mem_singleton.1 h1
          subst h2
          refine ⟨Nat.le_trans (rT_small _) (by omega), ?_⟩
          show (rV (rT (rPs n b).2).2).1.2.2.size ≤ _
          unfold rV
          split
          · exact Nat.zero_le _
          · exact Nat.le_trans (rT_small _) (by omega)
    exact h _ _

/-- a prop's own block -/
def DB (w : World) (D : Nat) (x : Pt) : Prop := w.heap[D]? = some (.cells #[.string x.1, .int .i64 x.2.1, .int .i64 x.2.2.1, .string x.2.2.2] 53 (0, 0))
theorem DB.at4 {w : World} {D : Nat} {x : Pt} (h : DB w D x) : w.cell? ⟨D, 0, none⟩ = some (.string x.1) ∧ w.cell? ⟨D, 1, none⟩ = some (.int .i64 x.2.1) ∧ w.cell? ⟨D, 2, none⟩ = some (.int .i64 x.2.2.1) ∧ w.cell? ⟨D, 3, none⟩ = some (.string x.2.2.2) :=
  ⟨by rw [cell_of_row _ _ 0 _ 53 (0, 0) h]; rfl, by rw [cell_of_row _ _ 1 _ 53 (0, 0) h]; rfl, by rw [cell_of_row _ _ 2 _ 53 (0, 0) h]; rfl, by rw [cell_of_row _ _ 3 _ 53 (0, 0) h]; rfl⟩
theorem DB.fz {w : World} {D : Nat} {x : Pt} (h : DB w D x) : w.frozen? ⟨D, 0, none⟩ = false ∧ w.frozen? ⟨D, 1, none⟩ = false ∧ w.frozen? ⟨D, 2, none⟩ = false ∧ w.frozen? ⟨D, 3, none⟩ = false :=
  ⟨Go.Joins.unfrozen_of_block h 0, Go.Joins.unfrozen_of_block h 1, Go.Joins.unfrozen_of_block h 2, Go.Joins.unfrozen_of_block h 3⟩
theorem DB.keep {w w' : World} {D B : Nat} {x : Pt} (h : DB w D x) (hk : Keep (fun k => k ≠ B) w w') (hB : D ≠ B) : DB w' D x := (hk.block D (Array.getElem?_eq_some_iff.1 h).1 hB).trans h
theorem EB.at5 {w : World} {E : Nat} {s d l : ByteArray} {t : Int} {pv : Value} (h : EB w E s d l t pv) : w.cell? ⟨E, 0, none⟩ = some (.string s) ∧ w.cell? ⟨E, 1, none⟩ = some (.string d) ∧ w.cell? ⟨E, 2, none⟩ = some (.string l) ∧ w.cell? ⟨E, 3, none⟩ = some (.int .i64 t) ∧ w.cell? ⟨E, 4, none⟩ = some pv :=
  ⟨by rw [cell_of_row _ _ 0 _ 24 (0, 0) h]; rfl, by rw [cell_of_row _ _ 1 _ 24 (0, 0) h]; rfl, by rw [cell_of_row _ _ 2 _ 24 (0, 0) h]; rfl, by rw [cell_of_row _ _ 3 _ 24 (0, 0) h]; rfl, by rw [cell_of_row _ _ 4 _ 24 (0, 0) h]; rfl⟩
theorem EB.keep {w w' : World} {E B : Nat} {s d l : ByteArray} {t : Int} {pv : Value} (h : EB w E s d l t pv) (hk : Keep (fun k => k ≠ B) w w') (hB : E ≠ B) : EB w' E s d l t pv := (hk.block E (Array.getElem?_eq_some_iff.1 h).1 hB).trans h
/-- a store to a block that is younger than the worlds compared -/
theorem Keep.set_new {p : Nat → Prop} {w w' : World} (h : Keep p w w') {D i : Nat} (hD : w.heap.size ≤ D) (v : Value) : Keep p w (w'.setCell ⟨D, i, none⟩ v) :=
  ⟨h.os, h.tape, h.output, by simpa using h.size, fun k hk hp => by rw [Below.heap_setCell _ _ _ _ (show k ≠ D by omega)]; exact h.block k hk hp⟩
theorem RdQ.set {w : World} {B D i : Nat} {s : Rs} {v : Value} (h : RdQ w B s) (hD : B < D) : RdQ (w.setCell ⟨D, i, none⟩ v) B s := h.keep (keep_set2 w D i v) (fun k hk => by show k ≠ D; omega)
theorem EB.set_new {w : World} {E D i : Nat} {s d l : ByteArray} {t : Int} {pv v : Value} (h : EB w E s d l t pv) (hD : E ≠ D) : EB (w.setCell ⟨D, i, none⟩ v) E s d l t pv := by
  unfold EB
  rw [Below.heap_setCell _ _ _ _ hD]
  exact h
theorem heap_set {w : World} {b B i : Nat} {o : Obj} {v : Value} (h : w.heap[b]? = some o) (hB : b ≠ B) : (w.setCell ⟨B, i, none⟩ v).heap[b]? = some o := by rw [Below.heap_setCell _ _ _ _ hB]; exact h

theorem kk_call {B E : Nat} {a b c : World} (h : Keep (fun k => k ≠ B ∧ k ≠ E) a b) (k : Keep (fun k => k ≠ B) b c) : Keep (fun k => k ≠ B ∧ k ≠ E) a c := h.trans k fun _ _ h => h.1
theorem kk_set {B E i : Nat} {a b : World} (h : Keep (fun k => k ≠ B ∧ k ≠ E) a b) (v : Value) : Keep (fun k => k ≠ B ∧ k ≠ E) a (b.setCell ⟨E, i, none⟩ v) := h.trans (keep_set2 b E i v) fun _ _ h => h.2
theorem EB.fz {w : World} {E : Nat} {s d l : ByteArray} {t : Int} {pv : Value} (h : EB w E s d l t pv) : w.frozen? ⟨E, 0, none⟩ = false ∧ w.frozen? ⟨E, 1, none⟩ = false ∧ w.frozen? ⟨E, 2, none⟩ = false ∧ w.frozen? ⟨E, 3, none⟩ = false ∧ w.frozen? ⟨E, 4, none⟩ = false :=
  ⟨Go.Joins.unfrozen_of_block h 0, Go.Joins.unfrozen_of_block h 1, Go.Joins.unfrozen_of_block h 2, Go.Joins.unfrozen_of_block h 3, Go.Joins.unfrozen_of_block h 4⟩
theorem EB.lt {w : World} {E : Nat} {s d l : ByteArray} {t : Int} {pv : Value} (h : EB w E s d l t pv) : E < w.heap.size := (Array.getElem?_eq_some_iff.1 h).1
theorem row_form4' {w : World} {base e size n : Nat} {v : Value} {xs : List Value} (h : w.ownsRow base e size v n xs) : ∃ A c, v = .slice A n c := by
  rcases h.2 with ⟨rfl, rfl⟩ | ⟨g, cap, cur, rfl, _⟩
  · exact ⟨_, _, rfl⟩
  · exact ⟨_, _, rfl⟩
/-- the one byte of a slice -/
theorem byte_of {w : World} {A : Option Addr} {c q : Nat} {T : List UInt8} (h : BR w (.slice A 1 c) T) (hT : byC T = [.int .u8 (q : Int)]) : ∃ ad, A = some ad ∧ ad.block < w.heap.size ∧ w.cell? ad = some (.int .u8 (q : Int)) := by
  obtain ⟨A', c', e, hh⟩ := h
  have e1 : T.length = 1 := by have := congrArg List.length hT; rw [byC_len] at this; exact this
  injection e with e2 e3 e4
  subst e2
  obtain ⟨ad, p1, p0, p2⟩ := hh (by omega)
  have p3 := p2 0 (.int .u8 (q : Int)) (by rw [hT]; rfl)
  exact ⟨ad, p1, p0, by simpa [Addr.add] using p3⟩

set_option maxHeartbeats 4000000 in
set_option maxRecDepth 100000 in
theorem rparse_walk {w : World} {v : Value} {l : List UInt8} (h : BR w v l) (hcap : ∀ A n c, v = .slice A n c → n ≤ c ∧ (A = none → c = 0)) (hl : l.length ≤ 281474976710656) : Calls Try.prog 26 #[v] w (ParsR (rParse l) w) := by
  unfold ParsR
  obtain ⟨A, c, rfl, hc⟩ := h
  have hc1 := hcap A _ c rfl
  obtain ⟨N, hNN⟩ : ∃ N, w.heap.size = N := ⟨_, rfl⟩
  obtain ⟨W0, hW0⟩ : ∃ W, ((w.alloc zE5).alloc (.cells #[.slice A l.length c, .bool false] 76)).alloc zE5 = W := ⟨_, rfl⟩
  have HB0 := Lib.hid (show Below N w W0 by rw [← hW0, ← hNN]; exact (((Below.refl _ w).alloc (Nat.le_refl _) _).alloc (by simp) _).alloc (by simp; omega) _)
  have HZ0 := Lib.hid (show W0.heap.size = N + 3 by rw [← hW0, ← hNN]; simp)
  have HRes := Lib.hid (show W0.heap[N]? = some (.cells #[.string ⟨#[]⟩, .string ⟨#[]⟩, .string ⟨#[]⟩, .int .i64 0, .slice none 0 0] 24 (0, 0)) by
    rw [← hW0, ← hNN]
    exact (Below.heap_alloc _ _ _ (by simp; omega)).trans ((Below.heap_alloc _ _ _ (by simp)).trans (heap_alloc_new w zE5)))
  have HQ0 := Lib.hid (show RdQ W0 (N + 1) (l, false) by
    refine ⟨.slice A l.length c, ?_, A, c, rfl, hc1.1, fun hn => ?_, hc1.2⟩
    · rw [← hW0, ← hNN]
      have hx2 := heap_alloc_new (w.alloc zE5) (.cells #[.slice A l.length c, .bool false] 76)
      rw [World.size_alloc] at hx2
      exact (Below.heap_alloc _ _ _ (by simp)).trans hx2
    · obtain ⟨ad, e1, e2, e3⟩ := hc hn
      refine ⟨ad, e1, by omega, by have := HZ0.out; omega, fun j u hj => (HB0.out.cell (p := ad.add j) (by rw [block_add]; omega)).trans (e3 j u hj)⟩)
  have HE0 := Lib.hid (show EB W0 (N + 1 + 1) ⟨#[]⟩ ⟨#[]⟩ ⟨#[]⟩ 0 (.slice none 0 0) by
    unfold EB
    rw [← hW0, ← hNN]
    have hx2 := heap_alloc_new ((w.alloc zE5).alloc (.cells #[.slice A l.length c, .bool false] 76)) zE5
    rw [World.size_alloc, World.size_alloc] at hx2
    exact hx2)
  obtain ⟨m, hM⟩ : ∃ m, l.length = m := ⟨_, rfl⟩
  have HM := Lib.hid hM
  rw [hM] at hW0
  clear hc hc1 hcap
  -- what is read, in order
  have HP : Hid (rParse l = if (rE (l, false)).2.2 = true ∨ (rE (l, false)).2.1 ≠ [] ∨ checkE (rE (l, false)).1 ≠ 0 then (zeroE, 4) else ((rE (l, false)).1, 0)) := rfl
  have HSZ := Lib.hid (rE_sz (l, false))
  have hre : rE (l, false) = (⟨(rT (l, false)).1, (rT (h1 (l, false))).1, (rT (h2 (l, false))).1, (rN (h3 (l, false))).1, (rPs (hN (l, false)) (h5 (l, false))).1⟩, (rPs (hN (l, false)) (h5 (l, false))).2) := rfl
  have f1 := fun W (hW : RdQ W (N + 1) (l, false)) => rtext_any hW hl
  have l1 : (h1 (l, false)).1.length ≤ 281474976710656 := Nat.le_trans (rT_le _) hl
  have f2 := fun W (hW : RdQ W (N + 1) (h1 (l, false))) => rtext_any hW l1
  have l2 : (h2 (l, false)).1.length ≤ 281474976710656 := Nat.le_trans (rT_le _) l1
  have f3 := fun W (hW : RdQ W (N + 1) (h2 (l, false))) => rtext_any hW l2
  have l3 : (h3 (l, false)).1.length ≤ 281474976710656 := Nat.le_trans (rT_le _) l2
  have f4 := fun W (hW : RdQ W (N + 1) (h3 (l, false))) => rnumber_any hW l3
  have l4 : (h4 (l, false)).1.length ≤ 281474976710656 := Nat.le_trans (rN_le _) l3
  have f5 := fun W (hW : RdQ W (N + 1) (h4 (l, false))) => take_any hW 1 (by omega) l4
  have l5 : (h5 (l, false)).1.length ≤ 281474976710656 := Nat.le_trans (tk_le _ _) l4
  have hT1 : byC (tk 1 (h4 (l, false))).1 = [.int .u8 (hN (l, false) : Int)] := by
    have hx := b0_one (tk_len 1 (h4 (l, false)))
    rw [hx]
    rfl
  have hT2 := tk_len 1 (h4 (l, false))
  have hn255 : hN (l, false) < 256 := UInt8.toNat_lt _
  have e1 : (rT (l, false)).2 = h1 (l, false) := rfl
  have e2 : (rT (h1 (l, false))).2 = h2 (l, false) := rfl
  have e3 : (rT (h2 (l, false))).2 = h3 (l, false) := rfl
  have e4 : (rN (h3 (l, false))).2 = h4 (l, false) := rfl
  have e5 : (tk 1 (h4 (l, false))).2 = h5 (l, false) := rfl
  unfold RTextR at f1 f2 f3
  unfold RNumR at f4
  unfold TakeR at f5
  rw [e1] at f1
  rw [e2] at f2
  rw [e3] at f3
  rw [e4] at f4
  rw [e5] at f5
  clear e1 e2 e3 e4 e5 l1 l2 l3 l4
  generalize (rT (l, false)).1 = xs at *
  generalize (rT (h1 (l, false))).1 = xd at *
  generalize (rT (h2 (l, false))).1 = xl at *
  generalize (rN (h3 (l, false))).1 = xt at *
  generalize (tk 1 (h4 (l, false))).1 = T at *
  generalize hN (l, false) = n at *
  generalize h5 (l, false) = s5 at *
  generalize h4 (l, false) = s4 at *
  generalize h3 (l, false) = s3 at *
  generalize h2 (l, false) = s2 at *
  generalize h1 (l, false) = s1 at *
  have HRE := Lib.hid hre
  have HT := Lib.hid (And.intro hT1 hT2)
  have F1 := Lib.hid f1
  have F2 := Lib.hid f2
  have F3 := Lib.hid f3
  have F4 := Lib.hid f4
  have F5 := Lib.hid f5
  have HL5 := Lib.hid l5
  clear hre hT1 hT2 f1 f2 f3 f4 f5 l5 hl
  have HNN := Lib.hid hNN
  rw [hM]
  clear hM
  go_enter Try.func26, Try.ntmps26
  go_upto_region 3 with (fail)
  clear hW0 hNN
  generalize hB : N + 1 = B at *
  generalize hE : B + 1 = E at *
  have hEB : E ≠ B := by omega
  have hBE : B < E := by omega
  have hK0 := Keep.refl (fun k => k ≠ B ∧ k ≠ E) W0
  have K0 := Lib.hid hK0
  have HEQ := Lib.hid (And.intro hB hE)
  clear hB hE hK0
  obtain ⟨c0, c1, c2, c3, c4⟩ := HE0.out.at5
  go_wp2_with (first
    | (go_at_call 59; refine (F1.out _ HQ0.out).mono ?_; clear F1; rintro z w1 ⟨hz, r1, k1⟩; subst hz; have E1 := Lib.hid (HE0.out.keep k1 hEB); have Q1 := Lib.hid (r1.set (i := 0) (v := .string xs) hBE); have E1' : Hid (EB (w1.setCell ⟨E, 0, none⟩ (.string xs)) E xs ⟨#[]⟩ ⟨#[]⟩ 0 (.slice none 0 0)) := Go.Joins.block_setCell E1.out _; have K1 := Lib.hid (kk_set (i := 0) (kk_call K0.out k1) (.string xs)); clear c0 c1 c2 c3 c4; obtain ⟨c0, c1, c2, c3, c4⟩ := E1.out.at5; obtain ⟨g0, g1', g2', g3', g4'⟩ := E1.out.fz; clear r1 k1)
    | (go_at_call 59; refine (F2.out _ Q1.out).mono ?_; clear F2; rintro z w2 ⟨hz, r1, k1⟩; subst hz; have E2 := Lib.hid (E1'.out.keep k1 hEB); have Q2 := Lib.hid (r1.set (i := 1) (v := .string xd) hBE); have E2' : Hid (EB (w2.setCell ⟨E, 1, none⟩ (.string xd)) E xs xd ⟨#[]⟩ 0 (.slice none 0 0)) := Go.Joins.block_setCell E2.out _; have K2 := Lib.hid (kk_set (i := 1) (kk_call K1.out k1) (.string xd)); clear c0 c1 c2 c3 c4 g0 g1' g2' g3' g4'; obtain ⟨c0, c1, c2, c3, c4⟩ := E2.out.at5; obtain ⟨g0, g1', g2', g3', g4'⟩ := E2.out.fz; clear r1 k1)
    | (go_at_call 59; refine (F3.out _ Q2.out).mono ?_; clear F3; rintro z w3 ⟨hz, r1, k1⟩; subst hz; have E3 := Lib.hid (E2'.out.keep k1 hEB); have Q3 := Lib.hid (r1.set (i := 2) (v := .string xl) hBE); have E3' : Hid (EB (w3.setCell ⟨E, 2, none⟩ (.string xl)) E xs xd xl 0 (.slice none 0 0)) := Go.Joins.block_setCell E3.out _; have K3 := Lib.hid (kk_set (i := 2) (kk_call K2.out k1) (.string xl)); clear c0 c1 c2 c3 c4 g0 g1' g2' g3' g4'; obtain ⟨c0, c1, c2, c3, c4⟩ := E3.out.at5; obtain ⟨g0, g1', g2', g3', g4'⟩ := E3.out.fz; clear r1 k1)
    | (go_at_call 60; refine (F4.out _ Q3.out).mono ?_; clear F4; rintro z w4 ⟨hz, r1, k1⟩; subst hz; have E4 := Lib.hid (E3'.out.keep k1 hEB); have Q4 := Lib.hid (r1.set (i := 3) (v := .int .i64 xt) hBE); have E4' : Hid (EB (w4.setCell ⟨E, 3, none⟩ (.int .i64 xt)) E xs xd xl xt (.slice none 0 0)) := Go.Joins.block_setCell E4.out _; have K4 := Lib.hid (kk_set (i := 3) (kk_call K3.out k1) (.int .i64 xt)); clear c0 c1 c2 c3 c4 g0 g1' g2' g3' g4'; obtain ⟨c0, c1, c2, c3, c4⟩ := E4.out.at5; obtain ⟨g0, g1', g2', g3', g4'⟩ := E4.out.fz; clear r1 k1)
    | (go_at_call 61; refine (F5.out _ Q4.out).mono ?_; clear F5; rintro z w5 ⟨A5, c5, hz, hb5, r1, k1, hfar⟩; subst hz; have E5 := Lib.hid (E4'.out.keep k1 hEB); have Q5 := Lib.hid r1; have K5 := Lib.hid (kk_call K4.out k1); obtain ⟨ad, hA5, hadl, hadc⟩ := byte_of hb5 HT.out.1; subst hA5; have HAD := Lib.hid (And.intro hadc (And.intro hadl (hfar (by omega) ad rfl))); have HSE := Lib.hid E4'.out.lt; clear c0 c1 c2 c3 c4 g0 g1' g2' g3' g4' r1 k1 hb5 hfar)
    | fail)
  obtain ⟨i0, hi, hz0, hz1, hz2⟩ := info_parts53
  have hadc := HAD.out.1
  have hadE : ad.block ≠ E := by
    rcases HAD.out.2.2 with h | h
    · omega
    · have := HSE.out; omega
  have hadB : ad.block ≠ B := by
    rcases HAD.out.2.2 with h | h
    · omega
    · have := HSE.out; omega
  have hE5 : E < w5.heap.size := E5.out.lt
  go_loopw [7] (fun i wr => ∃ (k : Nat) (pv : Value), k ≤ n ∧ i = .int .i64 k ∧ EB wr E xs xd xl xt pv ∧ wr.ownsRow w5.heap.size 53 4 pv k (flatP (rPs k s5).1) ∧ RdQ wr B (rPs k s5).2 ∧ Keep (fun j => j ≠ B ∧ j ≠ E) w5 wr) (fun i _ => n - (Lib.intOf i).toNat)
  case atStart => exact ⟨0, .slice none 0 0, Nat.zero_le _, rfl, E5.out, by simpa [rPs, flatP] using World.ownsRow_nil w5 w5.heap.size 53 4, Q5.out, Keep.refl _ _⟩
  case round =>
    obtain ⟨k, pv, hk, rfl, heb, hown, hrd, hkp⟩ := hrel
    have hsz := hkp.size
    have kadc : wr.cell? ad = some (.int .u8 (n : Int)) := (World.cell?_of_block (a := ad) (hkp.block ad.block HAD.out.2.1 ⟨hadB, hadE⟩)).trans hadc
    by_cases hlt : k < n
    · have HEBr := Lib.hid heb
      have HOW := Lib.hid hown
      have HRD := Lib.hid hrd
      have HKP := Lib.hid hkp
      have hB5 : B < w5.heap.size := by omega
      have hErr : E < wr.heap.size := heb.lt
      have hBD : B < wr.heap.size := by omega
      have hDB : wr.heap.size ≠ B := by omega
      have hlr : (rPs k s5).2.1.length ≤ 281474976710656 := Nat.le_trans (rPs_le k s5) HL5.out
      have q1 := fun W (hW : RdQ W B (rPs k s5).2) => rtext_any hW hlr
      have hlv : (rT (rPs k s5).2).2.1.length ≤ 281474976710656 := Nat.le_trans (rT_le _) hlr
      have q2 := fun W (hW : RdQ W B (rT (rPs k s5).2).2) => take_any hW 1 (by omega) hlv
      have hlt2 : (tk 1 (rT (rPs k s5).2).2).2.1.length ≤ 281474976710656 := Nat.le_trans (tk_le _ _) hlv
      have q3 := fun W (hW : RdQ W B (tk 1 (rT (rPs k s5).2).2).2) => rnumber_any hW hlt2
      have q4 := fun W (hW : RdQ W B (tk 1 (rT (rPs k s5).2).2).2) => rtext_any hW hlt2
      have hT2 : byC (tk 1 (rT (rPs k s5).2).2).1 = [.int .u8 ((b0 (tk 1 (rT (rPs k s5).2).2).1).toNat : Int)] := by
        have hx := b0_one (tk_len 1 (rT (rPs k s5).2).2)
        rw [hx]
        rfl
      have hst : rPs (k + 1) s5 = ((rPs k s5).1 ++ [((rT (rPs k s5).2).1, (rV (rT (rPs k s5).2).2).1)], (rV (rT (rPs k s5).2).2).2) := rfl
      have hq256 : (b0 (tk 1 (rT (rPs k s5).2).2).1).toNat < 256 := UInt8.toNat_lt _
      have hnb := And.intro (beN_bound (tk 6 (tk 1 (rT (rPs k s5).2).2).2).1).1 (beN_small (l := (tk 6 (tk 1 (rT (rPs k s5).2).2).2).1) (by rw [tk_len]; exact Nat.le_refl _))
      have hrn : (rN (tk 1 (rT (rPs k s5).2).2).2).1 = beN (tk 6 (tk 1 (rT (rPs k s5).2).2).2).1 := rfl
      rw [← hrn] at hnb
      unfold rV at hst
      unfold RTextR at q1 q4
      unfold TakeR at q2
      unfold RNumR at q3
      clear hrn hlr hlv hlt2 hkp
      generalize (b0 (tk 1 (rT (rPs k s5).2).2).1).toNat = q at *
      generalize (tk 1 (rT (rPs k s5).2).2).1 = T2 at *
      generalize (tk 1 (rT (rPs k s5).2).2).2 = st at *
      generalize (rN st).1 = xn at *
      generalize hs6n : (rN st).2 = s6n at *
      generalize (rT st).1 = xtx at *
      generalize hs6t : (rT st).2 = s6t at *
      generalize (rT (rPs k s5).2).1 = xk at *
      generalize (rT (rPs k s5).2).2 = sv at *
      generalize rPs k s5 = rk at *
      obtain ⟨ps, sk⟩ := rk
      simp only at *
      clear hs6n hs6t
      have HT2 := Lib.hid hT2
      have G1 := Lib.hid q1
      have G2 := Lib.hid q2
      have hDB0 : DB (wr.alloc (.cells #[.string ⟨#[]⟩, .int .i64 0, .int .i64 0, .string ⟨#[]⟩] 53)) wr.heap.size (⟨#[]⟩, 0, 0, ⟨#[]⟩) := heap_alloc_new wr _
      have HDB0 := Lib.hid hDB0
      have hal : Keep (fun j => j ≠ B) wr (wr.alloc (.cells #[.string ⟨#[]⟩, .int .i64 0, .int .i64 0, .string ⟨#[]⟩] 53)) := keepB_below ((Below.refl _ wr).alloc (Nat.le_refl _) _)
      have HAL := Lib.hid hal
      have HRDa := Lib.hid (hrd.below ((Below.refl _ wr).alloc (Nat.le_refl _) (.cells #[.string ⟨#[]⟩, .int .i64 0, .int .i64 0, .string ⟨#[]⟩] 53)))
      clear heb hown hrd hDB0 hal hT2 q1 q2
      by_cases hq1 : (q : Int) = 1
      · rw [if_pos hq1] at hst
        have HST := Lib.hid hst
        have G3 := Lib.hid q3
        obtain rfl : q = 1 := by omega
        have hwx : IntKind.i64.wrap (xn - 1099511627776) = xn - 1099511627776 := by rw [IntKind.wrap_i64]; omega
        clear q3 q4 hst hq256 hq1
        go_upto_region 18 with (first
        | (go_at_call 59; refine (G1.out _ HRDa.out).mono ?_; clear G1; rintro z wA ⟨hz, r1, k1⟩; subst hz; have DA := Lib.hid (HDB0.out.keep k1 hDB); have QA := Lib.hid (r1.set (i := 0) (v := .string xk) hBD); have DA' : Hid (DB (wA.setCell ⟨wr.heap.size, 0, none⟩ (.string xk)) wr.heap.size (xk, 0, 0, ⟨#[]⟩)) := Go.Joins.block_setCell DA.out _; have KA := Lib.hid ((keepB_trans HAL.out k1).set_new (i := 0) (Nat.le_refl _) (.string xk)); obtain ⟨a0, a1, a2, a3⟩ := DA.out.at4; obtain ⟨y0, y1, y2, y3⟩ := DA.out.fz; clear r1 k1)
        | (go_at_call 61; refine (G2.out _ QA.out).mono ?_; clear G2; rintro z wB ⟨A2, cc2, hz, hb2, r1, k1, _⟩; subst hz; obtain ⟨ad2, hA2, _, hadc2⟩ := byte_of hb2 HT2.out; subst hA2; have hadc3 : wB.cell? ad2 = some (.int .u8 1) := hadc2; clear hadc2; have DB2 := Lib.hid (DA'.out.keep k1 hDB); have QB := Lib.hid (r1.set (i := 1) (v := .int .i64 1) hBD); have DB2' : Hid (DB (wB.setCell ⟨wr.heap.size, 1, none⟩ (.int .i64 1)) wr.heap.size (xk, 1, 0, ⟨#[]⟩)) := Go.Joins.block_setCell DB2.out _; have KB := Lib.hid ((keepB_trans KA.out k1).set_new (i := 1) (Nat.le_refl _) (.int .i64 1)); clear a0 a1 a2 a3 y0 y1 y2 y3; obtain ⟨a0, a1, a2, a3⟩ := DB2.out.at4; obtain ⟨y0, y1, y2, y3⟩ := DB2.out.fz; clear r1 k1 hb2)
        | (go_at_call 60; refine (G3.out _ QB.out).mono ?_; clear G3; rintro z wC ⟨hz, r1, k1⟩; subst hz; have DC := Lib.hid (DB2'.out.keep k1 hDB); have QC := Lib.hid (r1.set (i := 2) (v := .int .i64 (xn - 1099511627776)) hBD); have DC' : Hid (DB (wC.setCell ⟨wr.heap.size, 2, none⟩ (.int .i64 (xn - 1099511627776))) wr.heap.size (xk, 1, xn - 1099511627776, ⟨#[]⟩)) := Go.Joins.block_setCell DC.out _; have KC := Lib.hid ((keepB_trans KB.out k1).set_new (i := 2) (Nat.le_refl _) (.int .i64 (xn - 1099511627776))); clear a0 a1 a2 a3 y0 y1 y2 y3; obtain ⟨a0, a1, a2, a3⟩ := DC.out.at4; obtain ⟨y0, y1, y2, y3⟩ := DC.out.fz; clear r1 k1)
        | fail)
        clear a0 a1 a2 a3 y0 y1 y2 y3
        generalize wC.setCell ⟨wr.heap.size, 2, none⟩ (.int .i64 (xn - 1099511627776)) = W7 at *
        obtain ⟨a0, a1, a2, a3⟩ := DC'.out.at4
        simp only at a0 a1 a2 a3
        have HOW7 := Lib.hid (show W7.ownsRow w5.heap.size 53 4 pv k (flatP ps) from own_keepB HOW.out KC.out hB5)
        have HZ7 := Lib.hid (show w5.heap.size ≤ W7.heap.size from Nat.le_trans hsz KC.out.size)
        have HEW := Lib.hid (show EB W7 E xs xd xl xt pv from HEBr.out.keep KC.out hEB)
        have e4 := HEW.out.at5.2.2.2.2
        have HE9 : Hid (∀ w9, (W7.alloc (.cells #[.string ((xk, 1, xn - 1099511627776, ⟨#[]⟩) : Pt).1, .int .i64 ((xk, 1, xn - 1099511627776, ⟨#[]⟩) : Pt).2.1, .int .i64 ((xk, 1, xn - 1099511627776, ⟨#[]⟩) : Pt).2.2.1, .string ((xk, 1, xn - 1099511627776, ⟨#[]⟩) : Pt).2.2.2] 53)).grownBy w9 pv.ownBlock → EB w9 E xs xd xl xt pv) := fun w9 hg => (hg.block E (by rw [World.size_alloc]; exact Nat.lt_succ_of_lt HEW.out.lt) (fun e => by have := own_base HOW.out E e.symm; omega)).trans ((Below.heap_alloc _ _ E HEW.out.lt).trans HEW.out)
        go_wp2_with (first | (at_builtin; refine wpList_append_pr (v := pv) rfl _ _ rfl (base := w5.heap.size) Try.underlying22 hi hz0 hz1 hz2 rfl (HOW7.out.alloc _) rfl (PR.one _ ((xk, 1, xn - 1099511627776, ⟨#[]⟩) : Pt) 53) (by simp; omega) (by rw [World.size_alloc]; exact Nat.le_succ_of_le HZ7.out) ?_; intro v9 w9 hown9 hgrow9 hat9; obtain ⟨g9, c9, hv9⟩ := own_some (show w9.ownsRow w5.heap.size 53 4 v9 (k + 1) (flatP ps ++ flatP [((xk, 1, xn - 1099511627776, ⟨#[]⟩) : Pt)]) from hown9); subst hv9; have H9 := Lib.hid (And.intro hown9 hgrow9); have hb9 := HE9.out w9 hgrow9; have m4 := (EB.at5 hb9).2.2.2.2; have m5 := (EB.fz hb9).2.2.2.2; have HB9 := Lib.hid hb9; clear hown9 hgrow9 hat9 hb9) | fail)
        · have K9 : Keep (fun j => j ≠ B ∧ j ≠ E) w5 (w9.setCell ⟨E, 4, none⟩ (.slice (some ⟨g9, 0, none⟩) (k + 1) c9)) := by
            have hs9 := H9.out.2.size
            rw [World.size_alloc] at hs9
            have hzW := KC.out.size
            refine ⟨(H9.out.2.os.trans KC.out.os).trans HKP.out.os, (H9.out.2.tape.trans KC.out.tape).trans HKP.out.tape, (H9.out.2.output.trans KC.out.output).trans HKP.out.output, by simp; omega, fun j hj hp => ?_⟩
            have hjo : some j ≠ pv.ownBlock := fun e => by have := own_base HOW.out j e.symm; omega
            rw [Below.heap_setCell _ _ _ _ hp.2]
            exact ((H9.out.2.block j (by rw [World.size_alloc]; omega) hjo).trans (Below.heap_alloc _ _ j (by omega))).trans ((KC.out.block j (by omega) hp.1).trans (HKP.out.block j hj hp))
          have hQ9 : RdQ (w9.setCell ⟨E, 4, none⟩ (.slice (some ⟨g9, 0, none⟩) (k + 1) c9)) B s6n := by
            refine RdQ.set ?_ hBE
            refine QC.out.keep (p := fun j => j ≤ B) ⟨H9.out.2.os, H9.out.2.tape, H9.out.2.output, by have := H9.out.2.size; rw [World.size_alloc] at this; omega, fun j hj hp => ?_⟩ (fun j hj => hj)
            have hjo : some j ≠ pv.ownBlock := fun e => by have := own_base HOW.out j e.symm; omega
            exact (H9.out.2.block j (by rw [World.size_alloc]; omega) hjo).trans (Below.heap_alloc _ _ j hj)
          have hO9 := ownsRow_setCell_below (show w9.ownsRow w5.heap.size 53 4 (.slice (some ⟨g9, 0, none⟩) (k + 1) c9) (k + 1) (flatP (ps ++ [((xk, 1, xn - 1099511627776, ⟨#[]⟩) : Pt)])) by rw [flatP_app]; exact H9.out.1) (a := ⟨E, 4, none⟩) hE5 (.slice (some ⟨g9, 0, none⟩) (k + 1) c9)
          have hB9 : EB (w9.setCell ⟨E, 4, none⟩ (.slice (some ⟨g9, 0, none⟩) (k + 1) c9)) E xs xd xl xt (.slice (some ⟨g9, 0, none⟩) (k + 1) c9) := Go.Joins.block_setCell HB9.out _
          have HFIN := Lib.hid (And.intro hB9 (And.intro hO9 (And.intro hQ9 K9)))
          clear K9 hQ9 hO9 hB9
          go_wp2_with fail
          go_roundw
          case rel => exact ⟨k + 1, _, by omega, by go_num, HFIN.out.1, by rw [HST.out]; exact HFIN.out.2.1, by rw [HST.out]; exact HFIN.out.2.2.1, HFIN.out.2.2.2⟩
          case measure => simp [Lib.intOf]; omega
      · rw [if_neg hq1] at hst
        have HST := Lib.hid hst
        have G3 := Lib.hid q4
        have hq1' : ¬ q = 1 := by omega
        clear q3 q4 hst
        go_upto_region 18 with (first
        | (go_at_call 59; refine (G1.out _ HRDa.out).mono ?_; clear G1; rintro z wA ⟨hz, r1, k1⟩; subst hz; have DA := Lib.hid (HDB0.out.keep k1 hDB); have QA := Lib.hid (r1.set (i := 0) (v := .string xk) hBD); have DA' : Hid (DB (wA.setCell ⟨wr.heap.size, 0, none⟩ (.string xk)) wr.heap.size (xk, 0, 0, ⟨#[]⟩)) := Go.Joins.block_setCell DA.out _; have KA := Lib.hid ((keepB_trans HAL.out k1).set_new (i := 0) (Nat.le_refl _) (.string xk)); obtain ⟨a0, a1, a2, a3⟩ := DA.out.at4; obtain ⟨y0, y1, y2, y3⟩ := DA.out.fz; clear r1 k1)
        | (go_at_call 61; refine (G2.out _ QA.out).mono ?_; clear G2; rintro z wB ⟨A2, cc2, hz, hb2, r1, k1, _⟩; subst hz; obtain ⟨ad2, hA2, _, hadc2⟩ := byte_of hb2 HT2.out; subst hA2; have DB2 := Lib.hid (DA'.out.keep k1 hDB); have QB := Lib.hid (r1.set (i := 1) (v := .int .i64 q) hBD); have DB2' : Hid (DB (wB.setCell ⟨wr.heap.size, 1, none⟩ (.int .i64 q)) wr.heap.size (xk, q, 0, ⟨#[]⟩)) := Go.Joins.block_setCell DB2.out _; have KB := Lib.hid ((keepB_trans KA.out k1).set_new (i := 1) (Nat.le_refl _) (.int .i64 q)); clear a0 a1 a2 a3 y0 y1 y2 y3; obtain ⟨a0, a1, a2, a3⟩ := DB2.out.at4; obtain ⟨y0, y1, y2, y3⟩ := DB2.out.fz; clear r1 k1 hb2)
        | (go_at_call 59; refine (G3.out _ QB.out).mono ?_; clear G3; rintro z wC ⟨hz, r1, k1⟩; subst hz; have DC := Lib.hid (DB2'.out.keep k1 hDB); have QC := Lib.hid (r1.set (i := 3) (v := .string xtx) hBD); have DC' : Hid (DB (wC.setCell ⟨wr.heap.size, 3, none⟩ (.string xtx)) wr.heap.size (xk, (q : Int), 0, xtx)) := Go.Joins.block_setCell DC.out _; have KC := Lib.hid ((keepB_trans KB.out k1).set_new (i := 3) (Nat.le_refl _) (.string xtx)); clear a0 a1 a2 a3 y0 y1 y2 y3; obtain ⟨a0, a1, a2, a3⟩ := DC.out.at4; obtain ⟨y0, y1, y2, y3⟩ := DC.out.fz; clear r1 k1)
        | fail)
        clear a0 a1 a2 a3 y0 y1 y2 y3
        generalize wC.setCell ⟨wr.heap.size, 3, none⟩ (.string xtx) = W7 at *
        obtain ⟨a0, a1, a2, a3⟩ := DC'.out.at4
        simp only at a0 a1 a2 a3
        have HOW7 := Lib.hid (show W7.ownsRow w5.heap.size 53 4 pv k (flatP ps) from own_keepB HOW.out KC.out hB5)
        have HZ7 := Lib.hid (show w5.heap.size ≤ W7.heap.size from Nat.le_trans hsz KC.out.size)
        have HEW := Lib.hid (show EB W7 E xs xd xl xt pv from HEBr.out.keep KC.out hEB)
        have e4 := HEW.out.at5.2.2.2.2
        have HE9 : Hid (∀ w9, (W7.alloc (.cells #[.string ((xk, (q : Int), 0, xtx) : Pt).1, .int .i64 ((xk, (q : Int), 0, xtx) : Pt).2.1, .int .i64 ((xk, (q : Int), 0, xtx) : Pt).2.2.1, .string ((xk, (q : Int), 0, xtx) : Pt).2.2.2] 53)).grownBy w9 pv.ownBlock → EB w9 E xs xd xl xt pv) := fun w9 hg => (hg.block E (by rw [World.size_alloc]; exact Nat.lt_succ_of_lt HEW.out.lt) (fun e => by have := own_base HOW.out E e.symm; omega)).trans ((Below.heap_alloc _ _ E HEW.out.lt).trans HEW.out)
        go_wp2_with (first | (at_builtin; refine wpList_append_pr (v := pv) rfl _ _ rfl (base := w5.heap.size) Try.underlying22 hi hz0 hz1 hz2 rfl (HOW7.out.alloc _) rfl (PR.one _ ((xk, (q : Int), 0, xtx) : Pt) 53) (by simp; omega) (by rw [World.size_alloc]; exact Nat.le_succ_of_le HZ7.out) ?_; intro v9 w9 hown9 hgrow9 hat9; obtain ⟨g9, c9, hv9⟩ := own_some (show w9.ownsRow w5.heap.size 53 4 v9 (k + 1) (flatP ps ++ flatP [((xk, (q : Int), 0, xtx) : Pt)]) from hown9); subst hv9; have H9 := Lib.hid (And.intro hown9 hgrow9); have hb9 := HE9.out w9 hgrow9; have m4 := (EB.at5 hb9).2.2.2.2; have m5 := (EB.fz hb9).2.2.2.2; have HB9 := Lib.hid hb9; clear hown9 hgrow9 hat9 hb9) | fail)
        · have K9 : Keep (fun j => j ≠ B ∧ j ≠ E) w5 (w9.setCell ⟨E, 4, none⟩ (.slice (some ⟨g9, 0, none⟩) (k + 1) c9)) := by
            have hs9 := H9.out.2.size
            rw [World.size_alloc] at hs9
            have hzW := KC.out.size
            refine ⟨(H9.out.2.os.trans KC.out.os).trans HKP.out.os, (H9.out.2.tape.trans KC.out.tape).trans HKP.out.tape, (H9.out.2.output.trans KC.out.output).trans HKP.out.output, by simp; omega, fun j hj hp => ?_⟩
            have hjo : some j ≠ pv.ownBlock := fun e => by have := own_base HOW.out j e.symm; omega
            rw [Below.heap_setCell _ _ _ _ hp.2]
            exact ((H9.out.2.block j (by rw [World.size_alloc]; omega) hjo).trans (Below.heap_alloc _ _ j (by omega))).trans ((KC.out.block j (by omega) hp.1).trans (HKP.out.block j hj hp))
          have hQ9 : RdQ (w9.setCell ⟨E, 4, none⟩ (.slice (some ⟨g9, 0, none⟩) (k + 1) c9)) B s6t := by
            refine RdQ.set ?_ hBE
            refine QC.out.keep (p := fun j => j ≤ B) ⟨H9.out.2.os, H9.out.2.tape, H9.out.2.output, by have := H9.out.2.size; rw [World.size_alloc] at this; omega, fun j hj hp => ?_⟩ (fun j hj => hj)
            have hjo : some j ≠ pv.ownBlock := fun e => by have := own_base HOW.out j e.symm; omega
            exact (H9.out.2.block j (by rw [World.size_alloc]; omega) hjo).trans (Below.heap_alloc _ _ j hj)
          have hO9 := ownsRow_setCell_below (show w9.ownsRow w5.heap.size 53 4 (.slice (some ⟨g9, 0, none⟩) (k + 1) c9) (k + 1) (flatP (ps ++ [((xk, (q : Int), 0, xtx) : Pt)])) by rw [flatP_app]; exact H9.out.1) (a := ⟨E, 4, none⟩) hE5 (.slice (some ⟨g9, 0, none⟩) (k + 1) c9)
          have hB9 : EB (w9.setCell ⟨E, 4, none⟩ (.slice (some ⟨g9, 0, none⟩) (k + 1) c9)) E xs xd xl xt (.slice (some ⟨g9, 0, none⟩) (k + 1) c9) := Go.Joins.block_setCell HB9.out _
          have HFIN := Lib.hid (And.intro hB9 (And.intro hO9 (And.intro hQ9 K9)))
          clear K9 hQ9 hO9 hB9
          go_wp2_with fail
          go_roundw
          case rel => exact ⟨k + 1, _, by omega, by go_num, HFIN.out.1, by rw [HST.out]; exact HFIN.out.2.1, by rw [HST.out]; exact HFIN.out.2.2.1, HFIN.out.2.2.2⟩
          case measure => simp [Lib.intOf]; omega
    · obtain rfl : k = n := by omega
      have HRE2 := Lib.hid (show rE (l, false) = (⟨xs, xd, xl, xt, (rPs k s5).1⟩, (rPs k s5).2) from HRE.out)
      have hnum := rPs_num k s5
      generalize rPs k s5 = rk at *
      obtain ⟨ps, lf, bf⟩ := rk
      simp only at *
      have hpe : rParse l = if bf = true ∨ lf ≠ [] ∨ checkE ⟨xs, xd, xl, xt, ps⟩ ≠ 0 then (zeroE, 4) else (⟨xs, xd, xl, xt, ps⟩, 0) := by
        rw [HP.out, HRE2.out]
      have hse : SzE ⟨xs, xd, xl, xt, ps⟩ := by
        have := HSZ.out
        rw [HRE2.out] at this
        exact this
      have HPE := Lib.hid hpe
      obtain ⟨vr, hblk, Ar, cr, rfl, _⟩ := hrd.ex
      have r0 : wr.cell? ⟨B, 0, none⟩ = some (.slice Ar lf.length cr) := by rw [cell_of_row _ _ 0 _ 76 (0, 0) hblk]; rfl
      have r1 : wr.cell? ⟨B, 1, none⟩ = some (.bool bf) := by rw [cell_of_row _ _ 1 _ 76 (0, 0) hblk]; rfl
      have hz := HZ0.out
      have hq := HEQ.out
      have h05 := K5.out.size
      have hRr : wr.heap[N]? = some (.cells #[.string ⟨#[]⟩, .string ⟨#[]⟩, .string ⟨#[]⟩, .int .i64 0, .slice none 0 0] 24 (0, 0)) :=
        (hkp.block N (by omega) ⟨by omega, by omega⟩).trans ((K5.out.block N (by omega) ⟨by omega, by omega⟩).trans HRes.out)
      have hbel : Below N w wr := by
        refine HB0.out.trans ⟨hkp.os.trans K5.out.os, hkp.tape.trans K5.out.tape, hkp.output.trans K5.out.output, Nat.le_trans h05 hkp.size, fun j hj => ?_⟩
        exact (hkp.block j (by omega) ⟨by omega, by omega⟩).trans (K5.out.block j (by omega) ⟨by omega, by omega⟩)
      have HRr := Lib.hid hRr
      have HBEL := Lib.hid hbel
      have hpr := PR.of_own hown
      obtain ⟨Ap, cp, rfl⟩ := row_form4' hown
      have HPR := Lib.hid hpr
      have HEBr := Lib.hid heb
      have HNE := Lib.hid (fun gg hgg => (show gg ≠ N by have := own_base hown gg hgg; omega))
      obtain ⟨d0, d1, d2, d3, d4, _⟩ := Bx5.of hRr
      obtain ⟨f0, f1, f2, f3, f4⟩ := Fx5.of hRr
      obtain ⟨c0, c1, c2, c3, c4⟩ := heb.at5
      have hNE : E ≠ N := by omega
      have HNW := Lib.hid (show w.heap.size ≤ N by rw [HNN.out]; exact Nat.le_refl _)
      clear hblk hbel hRr hown heb hrd hkp hpe hz hq h05 hnum hpr
      cases bf with
      | true =>
        have HPZ := Lib.hid (show rParse l = (zeroE, 4) by rw [HPE.out, if_pos (.inl rfl)])
        go_wp2_with fail
        exact bodyPost_ret (v := .tuple #[.agg #[.string ⟨#[]⟩, .string ⟨#[]⟩, .string ⟨#[]⟩, .int .i64 0, .slice none 0 0], .int .i64 4]) (by simp [results, Try.results26, go_sem, d0, d1, d2, d3, d4, f0, f1, f2, f3, f4]) rfl ⟨.slice none 0 0, by rw [HPZ.out]; rfl, by rw [HPZ.out]; exact PR.nil _ _ _, by rw [HNN.out]; exact HBEL.out.trans (below_set5 (Nat.le_refl _) _ _ _ _ _)⟩
      | false =>
        by_cases hl0 : lf = []
        · subst hl0
          have f17 := rCheck_any (e := ⟨xs, xd, xl, xt, ps⟩) HPR.out hse
          unfold RCheckR Ed.v at f17
          simp only at f17
          by_cases hc0 : checkE ⟨xs, xd, xl, xt, ps⟩ = 0
          · rw [hc0] at f17
            have HPZ := Lib.hid (show rParse l = (⟨xs, xd, xl, xt, ps⟩, 0) by rw [HPE.out, if_neg (by simp [hc0])])
            have F17 := Lib.hid f17
            clear f17 hc0
            go_wp2_with (go_at_call 17; refine F17.out.mono ?_; clear F17; rintro z wz ⟨hz, hgz⟩; subst hz; have HGZ := Lib.hid hgz.below; clear d0 d1 d2 d3 d4 f0 f1 f2 f3 f4 c0 c1 c2 c3 c4; have hRz := heap_keep HGZ.out HRr.out; have hEz := heap_keep HGZ.out HEBr.out; obtain ⟨d0, d1, d2, d3, d4, _⟩ := Bx5.of hRz; obtain ⟨f0, f1, f2, f3, f4⟩ := Fx5.of hRz; obtain ⟨c0, c1, c2, c3, c4⟩ := EB.at5 hEz; clear hRz hEz hgz)
            exact bodyPost_ret (v := .tuple #[.agg #[.string xs, .string xd, .string xl, .int .i64 xt, .slice Ap k cp], .int .i64 0]) (by simp [results, Try.results26, go_sem, d0, d1, d2, d3, d4, f0, f1, f2, f3, f4]) rfl ⟨.slice Ap k cp, by rw [HPZ.out]; rfl, by rw [HPZ.out]; exact (HPR.out.below HGZ.out).keep (set5_keep _ _ _ _ _ _ _) (fun _ gg hgg _ => HNE.out gg hgg), by rw [HNN.out]; exact (HBEL.out.trans (HGZ.out.mono (by have := HBEL.out.size; have := HNN.out; omega))).trans (below_set5 (Nat.le_refl _) _ _ _ _ _)⟩
          · have HPZ := Lib.hid (show rParse l = (zeroE, 4) by rw [HPE.out, if_pos (.inr (.inr hc0))])
            generalize checkE ⟨xs, xd, xl, xt, ps⟩ = cc at f17 hc0
            have hcc : (cc != 0) = true := by simpa using hc0
            have F17 := Lib.hid f17
            clear f17 hc0 HPE
            go_wp2_with (go_at_call 17; refine F17.out.mono ?_; clear F17; rintro z wz ⟨hz, hgz⟩; subst hz; have HGZ := Lib.hid hgz.below; clear d0 d1 d2 d3 d4 f0 f1 f2 f3 f4 c0 c1 c2 c3 c4; have hRz := heap_keep HGZ.out HRr.out; obtain ⟨d0, d1, d2, d3, d4, _⟩ := Bx5.of hRz; obtain ⟨f0, f1, f2, f3, f4⟩ := Fx5.of hRz; clear hRz hgz)
            exact bodyPost_ret (v := .tuple #[.agg #[.string ⟨#[]⟩, .string ⟨#[]⟩, .string ⟨#[]⟩, .int .i64 0, .slice none 0 0], .int .i64 4]) (by simp [results, Try.results26, go_sem, d0, d1, d2, d3, d4, f0, f1, f2, f3, f4]) rfl ⟨.slice none 0 0, by rw [HPZ.out]; rfl, by rw [HPZ.out]; exact PR.nil _ _ _, by rw [HNN.out]; exact (HBEL.out.trans (HGZ.out.mono (by have := HBEL.out.size; have := HNN.out; omega))).trans (below_set5 (Nat.le_refl _) _ _ _ _ _)⟩
        · have HPZ := Lib.hid (show rParse l = (zeroE, 4) by rw [HPE.out, if_pos (.inr (.inl hl0))])
          obtain ⟨q, hq⟩ : ∃ q, lf.length = q := ⟨_, rfl⟩
          have hq0 : 0 < q := by rw [← hq]; exact List.length_pos_iff.2 hl0
          have hqi : (0 : Int) < (q : Int) := by omega
          rw [hq] at r0
          clear hq hl0 HPE
          go_wp2_with fail
          exact bodyPost_ret (v := .tuple #[.agg #[.string ⟨#[]⟩, .string ⟨#[]⟩, .string ⟨#[]⟩, .int .i64 0, .slice none 0 0], .int .i64 4]) (by simp [results, Try.results26, go_sem, d0, d1, d2, d3, d4, f0, f1, f2, f3, f4]) rfl ⟨.slice none 0 0, by rw [HPZ.out]; rfl, by rw [HPZ.out]; exact PR.nil _ _ _, by rw [HNN.out]; exact HBEL.out.trans (below_set5 (Nat.le_refl _) _ _ _ _ _)⟩
end Go.Proofs.Ytpoefcpgcojppaa

namespace Go.Proofs.Ytpoefcpgcojppaa
open Go.ChangeShapes Go.WideShapes Go.ChangeAt Go.RowKit
set_option linter.unusedVariables false

def LentE (x : Ed) (w : World) (e : Ending) (w' : World) : Prop :=
  ∃ g c, e = .returned (x.v (.slice (some ⟨g, 0, none⟩) x.props.length c)) ∧ w'.ownsRow w.heap.size 53 4 (.slice (some ⟨g, 0, none⟩) (x.props.length + 12) c) (x.props.length + 12) (flatP (x.props ++ mksP)) ∧ Below w.heap.size w w'

set_option maxHeartbeats 2000000 in
theorem lentE_any {w : World} {x : Ed} {v : Value} (h : PR w v x.props) (hl : x.props.length ≤ 1000000) : Calls Try.prog 11 #[x.v v] w (LentE x w) := by
  unfold LentE
  obtain ⟨A, n, c, rfl⟩ := slice_any h
  have f37 := fun W (hW : Below w.heap.size w W) => lentP_any _ x.props W (h.below hW) hl
  unfold LentP at f37
  obtain ⟨m, hm⟩ : ∃ m, x.props.length = m := ⟨_, rfl⟩
  rw [hm] at f37 ⊢
  have F37 := Lib.hid f37
  unfold Ed.v
  have hb0 : Below w.heap.size w ((w.alloc (.cells #[.string x.src, .string x.dst, .string x.lab, .int .i64 x.time, .slice A n c] 24)).alloc zE5) := ((Below.refl _ w).alloc (Nat.le_refl _) _).alloc (by simp) _
  have HB0 := Lib.hid hb0
  have hE0 : EB ((w.alloc (.cells #[.string x.src, .string x.dst, .string x.lab, .int .i64 x.time, .slice A n c] 24)).alloc zE5) w.heap.size x.src x.dst x.lab x.time (.slice A n c) := (Below.heap_alloc _ _ _ (by simp)).trans (heap_alloc_new w _)
  have HE0 := Lib.hid hE0
  have hR0 := heap_alloc_new (w.alloc (.cells #[.string x.src, .string x.dst, .string x.lab, .int .i64 x.time, .slice A n c] 24)) zE5
  rw [World.size_alloc] at hR0
  have HR0 := Lib.hid hR0
  clear f37 hm h hl hb0 hE0 hR0
  obtain ⟨s, d, l, t, ps⟩ := x
  simp only at *
  go_enter Try.func11, Try.ntmps11
  go_wp2_with (go_at_call 37; refine (F37.out _ HB0.out).mono ?_; clear F37; rintro z w1 ⟨g, cc, hz, hrow, hw⟩; subst hz; have HROW := Lib.hid hrow; have HB1 := Lib.hid hw; have hE1 : EB w1 w.heap.size s d l t (.slice A n c) := heap_keep hw HE0.out; have hR1 : w1.heap[w.heap.size + 1]? = some (.cells #[.string ⟨#[]⟩, .string ⟨#[]⟩, .string ⟨#[]⟩, .int .i64 0, .slice none 0 0] 24 (0, 0)) := heap_keep hw HR0.out; obtain ⟨c0, c1, c2, c3, c4⟩ := EB.at5 hE1; have g4 := (EB.fz hE1).2.2.2.2; obtain ⟨d0, d1, d2, d3, d4, _⟩ := Bx5.of hR1; obtain ⟨f0, f1, f2, f3, f4⟩ := Fx5.of hR1; clear hE1 hR1 hrow hw)
  have hz := HB1.out.size
  have hbase : w.heap.size + 1 < ((w.alloc (.cells #[.string s, .string d, .string l, .int .i64 t, .slice A n c] 24)).alloc zE5).heap.size := by simp
  have hW : Below w.heap.size w (w1.setCell ⟨w.heap.size, 4, none⟩ (.slice (some ⟨g, 0, none⟩) m cc)) := (HB0.out.trans (HB1.out.mono HB0.out.size)).setCell (p := ⟨w.heap.size, 4, none⟩) (Nat.le_refl _) _
  have hrow1 := ownsRow_setCell_below HROW.out (a := ⟨w.heap.size, 4, none⟩) (by show w.heap.size < _; omega) (.slice (some ⟨g, 0, none⟩) m cc)
  exact bodyPost_ret (v := .agg #[.string s, .string d, .string l, .int .i64 t, .slice (some ⟨g, 0, none⟩) m cc]) (by simp [results, Try.results11, go_sem, d0, d1, d2, d3, d4, f0, f1, f2, f3, f4]) rfl ⟨g, cc, rfl, own_lower (ownsRow_setCell_below (ownsRow_setCell_below (ownsRow_setCell_below (ownsRow_setCell_below (ownsRow_setCell_below hrow1 (a := ⟨w.heap.size + 1, 0, none⟩) hbase _) (a := ⟨w.heap.size + 1, 1, none⟩) hbase _) (a := ⟨w.heap.size + 1, 2, none⟩) hbase _) (a := ⟨w.heap.size + 1, 3, none⟩) hbase _) (a := ⟨w.heap.size + 1, 4, none⟩) hbase _) HB0.out.size, hW.trans (below_set5 (Nat.le_succ _) _ _ _ _ _)⟩

set_option maxHeartbeats 2000000 in
theorem keptE_any {w : World} {x : Ed} {A : Option Addr} {q c : Nat} {v2 : Value} (h1 : PR w (.slice A q c) (x.props ++ mksP)) (hq : x.props.length ≤ q) (hc : q ≤ c) (h2 : PR w v2 x.props) (hl : x.props.length ≤ 100000) :
    Calls Try.prog 23 #[x.v (.slice A x.props.length c), x.v v2] w fun e w' => e = .returned (.bool true) ∧ Gr w w' := by
  obtain ⟨A2, n2, c2, rfl⟩ := slice_any h2
  have ht : PR w (.slice A x.props.length c) x.props := by
    have h := h1.take hq
    rwa [List.take_left' rfl] at h
  have f27 := fun W (hW : Gr w W) => sameE_yes (ht.gr hW) (h2.gr hW) (by omega)
  have f55 := fun W (hW : Gr w W) => keptP_any x.props _ (h1.gr hW) hc (h2.gr hW) hl
  unfold Ed.v at f27 ⊢
  obtain ⟨m, hm⟩ : ∃ m, x.props.length = m := ⟨_, rfl⟩
  rw [hm] at f27 f55 ⊢
  obtain ⟨W0, hW0⟩ : ∃ W, (w.alloc (.cells #[.string x.src, .string x.dst, .string x.lab, .int .i64 x.time, .slice A m c] 24)).alloc (.cells #[.string x.src, .string x.dst, .string x.lab, .int .i64 x.time, .slice A2 n2 c2] 24) = W := ⟨_, rfl⟩
  have HX := Lib.hid (show Bx5 W0 w.heap.size (.string x.src) (.string x.dst) (.string x.lab) (.int .i64 x.time) (.slice A m c) by rw [← hW0]; exact Bx5.below (Bx5.new w _ _ _ _ _ 24) ((Below.refl _ _).alloc (Nat.le_refl _) _))
  have HY := Lib.hid (show Bx5 W0 (w.heap.size + 1) (.string x.src) (.string x.dst) (.string x.lab) (.int .i64 x.time) (.slice A2 n2 c2) by rw [← hW0]; exact bx_at)
  have HG0 := Lib.hid (show Gr w W0 by rw [← hW0]; exact ((Gr.refl w).alloc _).alloc _)
  have F27 := Lib.hid f27
  have F55 := Lib.hid f55
  clear f27 f55 h1 h2 ht hm
  go_enter Try.func23, Try.ntmps23
  go_upto_region 1 with (fail)
  try rw [hW0]
  clear hW0
  obtain ⟨a0, a1, a2, a3, a4, _⟩ := HX.out
  obtain ⟨b0, b1, b2, b3, b4, _⟩ := HY.out
  go_wp2_with (first
    | (go_at_call 27; refine (F27.out _ HG0.out).mono ?_; clear F27; rintro z w1 ⟨hz, hw⟩; subst hz; have HG1 := Lib.hid (HG0.out.trans hw); clear a0 a1 a2 a3 a4 b0 b1 b2 b3 b4; obtain ⟨a0, a1, a2, a3, a4, _⟩ := HX.out.below hw.below; obtain ⟨b0, b1, b2, b3, b4, _⟩ := HY.out.below hw.below; clear hw)
    | (go_at_call 55; refine (F55.out _ HG1.out).mono ?_; clear F55; rintro z w2 ⟨hz, hw⟩; subst hz; have HG2 := Lib.hid (HG1.out.trans hw); clear hw)
    | fail)
  go_ret
  exact ⟨rfl, HG2.out⟩
end Go.Proofs.Ytpoefcpgcojppaa

namespace Go.Proofs.Ytpoefcpgcojppaa
open Go.ChangeShapes Go.WideShapes Go.ChangeAt Go.RowKit
set_option linter.unusedVariables false

/-- the mark of a place -/
def mX (i : Nat) : Ev := (⟨⟨#[]⟩, ⟨#[]⟩, ⟨#[]⟩, 8000024 + i, []⟩, .slice none 0 0)
def mksX : List Ev := (List.range 12).map mX
theorem mksX_len : mksX.length = 12 := by simp [mksX]
theorem mksX_get (k : Nat) (h : k < mksX.length) : mksX[k] = mX k := by simp [mksX]
theorem markX_any (i : Nat) (w : World) (hi : i < 12) : Calls Try.prog 63 #[.int .i64 1, .int .i64 i] w fun e w' => e = .returned (.agg #[.string ⟨#[]⟩, .string ⟨#[]⟩, .string ⟨#[]⟩, .int .i64 (8000024 + i), .slice none 0 0]) ∧ Gr w w' := by
  have hg : Gr w (w.alloc (.cells #[.string ⟨#[]⟩, .string ⟨#[]⟩, .string ⟨#[]⟩, .int .i64 (8000024 + i), .slice none 0 0] 24)) := (Gr.refl w).alloc _
  have HG := Lib.hid hg
  clear hg
  go_enter Try.func63, Try.ntmps63
  go_wp2_with (go_at_call 79; refine (mark_any _ _ (by omega) (by omega)).mono ?_; rintro e w' ⟨hx, hw⟩; subst hx; subst hw)
  have hn := heap_alloc_new w (.cells #[.string ⟨#[]⟩, .string ⟨#[]⟩, .string ⟨#[]⟩, .int .i64 (8000024 + i), .slice none 0 0] 24)
  have d0 := cell_of_row _ _ 0 _ 24 (0, 0) hn
  have d1 := cell_of_row _ _ 1 _ 24 (0, 0) hn
  have d2 := cell_of_row _ _ 2 _ 24 (0, 0) hn
  have d3 := cell_of_row _ _ 3 _ 24 (0, 0) hn
  have d4 := cell_of_row _ _ 4 _ 24 (0, 0) hn
  exact bodyPost_ret (v := .agg #[.string ⟨#[]⟩, .string ⟨#[]⟩, .string ⟨#[]⟩, .int .i64 (8000024 + i), .slice none 0 0]) (by simp [results, Try.results63, go_sem, d0, d1, d2, d3, d4]) rfl ⟨rfl, HG.out⟩

/-- its props are lent: marks lie behind them -/
def Lp (w : World) (p : Ev) : Prop := ∃ A c, p.2 = .slice A p.1.props.length c ∧ PR w (.slice A (p.1.props.length + 12) c) (p.1.props ++ mksP) ∧ p.1.props.length + 12 ≤ c
theorem Lp.below {w w' : World} {p : Ev} (h : Lp w p) (hb : Below w.heap.size w w') : Lp w' p := by
  obtain ⟨A, c, h1, h2, h3⟩ := h
  exact ⟨A, c, h1, h2.below hb, h3⟩
theorem Lp.pr {w : World} {p : Ev} (h : Lp w p) : PR w p.2 p.1.props := by
  obtain ⟨A, c, h1, h2, h3⟩ := h
  have h := h2.take (show p.1.props.length ≤ p.1.props.length + 12 by omega)
  rw [List.take_left' rfl] at h
  rw [h1]
  exact h
theorem own_grow2 {w w' : World} {base base2 n n2 sz sz2 : Nat} {t t2 : TypeId} {v v2 : Value} {xs ys : List Value} (h : w.ownsRow base t sz v n xs) (h2 : w.ownsRow base2 t2 sz2 v2 n2 ys) (ht : t ≠ t2) (hg : w.grownBy w' v2.ownBlock) : w'.ownsRow base t sz v n xs := by
  refine ⟨h.1, ?_⟩
  rcases h.2 with hn | ⟨b, cap, cur, hv, hb, hh, rest⟩
  · exact .inl hn
  · refine .inr ⟨b, cap, cur, hv, hb, ?_, rest⟩
    refine (hg.block b (Array.getElem?_eq_some_iff.1 hh).1 ?_).trans hh
    intro e
    rcases h2.2 with ⟨e2, _⟩ | ⟨g', cap', cur', e2, _, hh', _⟩
    · subst e2
      simp [Value.ownBlock] at e
    · subst e2
      simp [Value.ownBlock] at e
      subst e
      rw [hh] at hh'
      injection hh' with hh'
      injection hh' with _ hh'
      exact ht hh'
/-- its props lie, with marks behind them, in a row of their own -/
def LpO (w : World) (N : Nat) (p : Ev) : Prop := ∃ g c, p.2 = .slice (some ⟨g, 0, none⟩) p.1.props.length c ∧ w.ownsRow N 53 4 (.slice (some ⟨g, 0, none⟩) (p.1.props.length + 12) c) (p.1.props.length + 12) (flatP (p.1.props ++ mksP))
theorem LpO.below {w w' : World} {N : Nat} {p : Ev} (h : LpO w N p) (hb : Below w.heap.size w w') : LpO w' N p := by
  obtain ⟨g, c, h1, h2⟩ := h
  exact ⟨g, c, h1, own_below h2 hb⟩
theorem LpO.lp {w : World} {N : Nat} {p : Ev} (h : LpO w N p) : Lp w p := by
  obtain ⟨g, c, h1, h2⟩ := h
  exact ⟨_, c, h1, PR.of_own h2, own_room h2⟩
theorem LpO.grow {w w' : World} {N base2 n2 : Nat} {p : Ev} {v2 : Value} {ys : List Value} (h : LpO w N p) (h2 : w.ownsRow base2 24 5 v2 n2 ys) (hg : w.grownBy w' v2.ownBlock) : LpO w' N p := by
  obtain ⟨g, c, h1, h3⟩ := h
  exact ⟨g, c, h1, own_grow2 h3 h2 (by decide) hg⟩
def LentX (l : List Ev) (w : World) (e : Ending) (w' : World) : Prop :=
  ∃ g c L, e = .returned (.slice (some ⟨g, 0, none⟩) l.length c) ∧ L.length = l.length ∧ L.map (·.1) = l.map (·.1) ∧ w'.ownsRow w.heap.size 24 5 (.slice (some ⟨g, 0, none⟩) (l.length + 12) c) (l.length + 12) (flatX (L ++ mksX)) ∧ (∀ p ∈ L, Lp w' p) ∧ Below w.heap.size w w'
theorem ER.one (w : World) (s d l : ByteArray) (t : Int) (ps : List Pt) (pv : Value) (hp : PR w pv ps) : ER (w.alloc (.cells #[.string s, .string d, .string l, .int .i64 t, pv] 24)) (.slice (some ⟨w.heap.size, 0, none⟩) 1 1) [(⟨s, d, l, t, ps⟩, pv)] :=
  ER.of_block (l := [(⟨s, d, l, t, ps⟩, pv)]) (vs := [.string s, .string d, .string l, .int .i64 t, pv]) (heap_alloc_new w (.cells #[.string s, .string d, .string l, .int .i64 t, pv] 24)) rfl 1 (fun p h => by rw [List.mem_singleton.1 h]; exact hp.below ((Below.refl _ _).alloc (Nat.le_refl _) _))

set_option maxHeartbeats 2000000 in
set_option maxRecDepth 100000 in
theorem lentX_any (v : Value) (l : List Ev) (w : World) (hv : ER w v l) (hll : l.length ≤ 100000) (hp : ∀ p ∈ l, p.1.props.length ≤ 100000) : Calls Try.prog 29 #[v] w (LentX l w) := by
  unfold LentX
  obtain ⟨i9, hi9, hz9, hs9, hb9⟩ := info_parts24
  have HV := Lib.hid hv
  have HP := Lib.hid hp
  obtain ⟨A, c, rfl⟩ := hv.form
  obtain ⟨n, hn⟩ : ∃ n, l.length = n := ⟨_, rfl⟩
  have HN := Lib.hid hn
  rw [hn] at HV hll ⊢
  clear hv hp hn
  obtain ⟨N0, hN0⟩ : ∃ N, w.heap.size = N := ⟨_, rfl⟩
  have HN0 := Lib.hid hN0
  obtain ⟨M, hM⟩ : ∃ M, M = madeCells (Value.agg #[.string ⟨#[]⟩, .string ⟨#[]⟩, .string ⟨#[]⟩, .int .i64 0, .slice none 0 0]).cells ((n + 12) * i9.size) := ⟨_, rfl⟩
  have hMs : M.size = (n + 12) * 5 := by rw [hM, size_madeCells, hs9]
  have eN : ((n : Int) + 12).toNat = n + 12 := by omega
  have hmk : ∀ W : World, (Instr.makeSlice 26 (.int .i64 0) (.int .i64 ((n : Int) + 12))).run Try.prog W = .ok (.slice (some ⟨W.heap.size, 0, none⟩) 0 (n + 12)) (W.alloc (.cells M 24)) := fun W => by
    have h := run_make (P := Try.prog) W 26 24 i9 (.agg #[.string ⟨#[]⟩, .string ⟨#[]⟩, .string ⟨#[]⟩, .int .i64 0, .slice none 0 0]) Try.underlying26 hi9 hz9 .i64 .i64 0 ((n : Int) + 12) (by omega) (by omega) (by rw [hb9]; omega) (by omega)
    rw [eN, ← hM] at h
    simpa using h
  have HO := Lib.hid (World.ownsRow_made (base := w.heap.size) (size := 5) (e := 24) w M (n + 12) (Nat.le_refl _) (by unfold maxLen; omega) hMs)
  have HB := Lib.hid ((Below.refl w.heap.size w).alloc (Nat.le_refl _) (.cells M 24))
  rw [hN0] at HO HB ⊢
  clear hM hMs eN hN0
  go_enter Try.func29, Try.ntmps29
  go_wp2_with fail
  clear hmk
  go_loopw [3, 4] (fun v i wr => ∃ (k : Nat) (L : List Ev), k ≤ n ∧ i = .int .i64 k ∧ Hid (L.length = k ∧ L.map (·.1) = (l.take k).map (·.1) ∧ wr.ownsRow N0 24 5 v k (flatX L) ∧ (∀ p ∈ L, LpO wr N0 p) ∧ Below N0 w wr)) (fun _ i _ => n - (Lib.intOf i).toNat)
  case atStart => exact ⟨0, [], Nat.zero_le _, rfl, rfl, rfl, (by rw [HN0.out]; exact HO.out), fun p h => absurd h (by simp), HB.out⟩
  case round =>
    obtain ⟨k, L, hk, rfl, HI⟩ := hrel
    by_cases hlt : k < n
    · have e1 : k < l.length := by have := HN.out; omega
      have hb := HI.out.2.2.2.2
      have hER := HV.out.below (show Below w.heap.size w wr by rw [HN0.out]; exact hb)
      obtain ⟨ad, f1, _, q0, q1, q2, q3, q4⟩ := hER.at4 e1
      subst f1
      have hpr := hER.each _ (List.getElem_mem e1)
      have hpl := HP.out _ (List.getElem_mem e1)
      obtain ⟨x, hx⟩ : ∃ x, l[k]'e1 = x := ⟨_, rfl⟩
      rw [hx] at q0 q1 q2 q3 q4 hpr hpl
      have HX := Lib.hid hx
      obtain ⟨⟨s, d, lb, t, ps⟩, pv⟩ := x
      simp only at q0 q1 q2 q3 q4 hpr hpl
      have f11 := lentE_any (x := ⟨s, d, lb, t, ps⟩) hpr (by simpa using Nat.le_trans hpl (by omega))
      unfold LentE Ed.v at f11
      simp only at f11
      obtain ⟨m, hm⟩ : ∃ m, ps.length = m := ⟨_, rfl⟩
      have HM := Lib.hid hm
      rw [hm] at f11
      have F11 := Lib.hid f11
      have hSZ : N0 ≤ wr.heap.size := by have := hb.size; have := HN0.out; omega
      clear hER hpr hx f11 hb hm hpl
      go_upto_region 6 with (go_at_call 11; refine F11.out.mono ?_; clear F11; rintro z w2 ⟨g2, c2, hz, hown, hw⟩; subst hz; have HO2 := Lib.hid hown; have HB2 := Lib.hid hw; clear hown hw q0 q1 q2 q3 q4)
      have HPA := Lib.hid (show PR w2 (.slice (some ⟨g2, 0, none⟩) (m + 12) c2) (ps ++ mksP) from PR.of_own HO2.out)
      have HCAP := Lib.hid (own_room HO2.out)
      have hb3 : Below w2.heap.size w2 (w2.alloc (.cells #[.string s, .string d, .string lb, .int .i64 t, .slice (some ⟨g2, 0, none⟩) m c2] 24)) := (Below.refl w2.heap.size w2).alloc (Nat.le_refl _) _
      have HB3 := Lib.hid (HB2.out.trans (hb3.mono HB2.out.size))
      have HP3 := Lib.hid (HPA.out.below hb3)
      have HX3 := Lib.hid (Bx5.new w2 (.string s) (.string d) (.string lb) (.int .i64 t) (.slice (some ⟨g2, 0, none⟩) m c2) 24)
      have HPO := Lib.hid (own_below HO2.out hb3)
      clear hb3 HPA HO2 HB2
      generalize w2.alloc (.cells #[.string s, .string d, .string lb, .int .i64 t, .slice (some ⟨g2, 0, none⟩) m c2] 24) = w3 at HB3 HP3 HX3 HPO ⊢
      generalize w2.heap.size = E5 at HX3 ⊢
      have HPB := Lib.hid (show PR w3 (.slice (some ⟨g2, 0, none⟩) m c2) ps by
        have h := HP3.out.take (show m ≤ m + 12 by omega)
        rwa [← HM.out, List.take_left' rfl, HM.out] at h)
      obtain ⟨q0, q1, q2, q3, q4, _⟩ := HX3.out
      have HAL := Lib.hid ((Below.refl w3.heap.size w3).alloc (Nat.le_refl _) (.cells #[.string s, .string d, .string lb, .int .i64 t, .slice (some ⟨g2, 0, none⟩) m c2] 24))
      have HSZ := Lib.hid hSZ
      have hs3 : N0 ≤ w3.heap.size := Nat.le_trans hSZ HB3.out.size
      have HRW := Lib.hid (own_below (own_below HI.out.2.2.1 HB3.out) HAL.out)
      have HB30 := Lib.hid (show Below N0 w w3 from HI.out.2.2.2.2.trans (HB3.out.mono hSZ))
      go_wp2_with (at_builtin; refine wpList_append_er rfl _ _ rfl (base := N0) Try.underlying26 hi9 hz9 hs9 hb9 rfl HRW.out rfl (ER.one w3 s d lb t ps (.slice (some ⟨g2, 0, none⟩) m c2) HPB.out) (by simp; omega) (by simp; omega) ?_; intro v' w4 hown' hgrow hloc; have HO4 := Lib.hid hown'; have HB34 := Lib.hid (show Below N0 w3 w4 from ((HAL.out.mono hs3)).grown hgrow (by simp; omega) (fun g hg => own_base HRW.out g hg)); have HG4 := Lib.hid hgrow; clear hown' hgrow hloc)
      have HLL := Lib.hid (show ∀ p ∈ L ++ [((⟨s, d, lb, t, ps⟩, .slice (some ⟨g2, 0, none⟩) m c2) : Ev)], LpO w4 N0 p from fun p hp => by
        have hal := HAL.out
        rcases List.mem_append.1 hp with hp | hp
        · exact (((HI.out.2.2.2.1 p hp).below HB3.out).below hal).grow HRW.out HG4.out
        · rw [List.mem_singleton.1 hp]
          have h9 : LpO w3 N0 ((⟨s, d, lb, t, ps⟩, .slice (some ⟨g2, 0, none⟩) m c2) : Ev) := ⟨g2, c2, by simp only; rw [HM.out], by simp only; rw [HM.out]; exact own_lower HPO.out hSZ⟩
          exact (h9.below hal).grow HRW.out HG4.out)
      have HBN := Lib.hid (HB30.out.trans HB34.out)
      go_roundw
      case measure => simp [Lib.intOf]; omega
      case rel =>
        refine ⟨k + 1, L ++ [((⟨s, d, lb, t, ps⟩, .slice (some ⟨g2, 0, none⟩) m c2) : Ev)], by omega, by go_num, ?_, ?_, ?_, HLL.out, HBN.out⟩
        · rw [List.length_append, HI.out.1]; rfl
        · rw [List.take_succ_eq_append_getElem e1, List.map_append, List.map_append, HI.out.2.1, HX.out]; rfl
        · rw [flatX_app]; exact HO4.out
    · obtain rfl : k = n := by omega
      rw [List.take_of_length_le (by rw [HN.out]; exact Nat.le_refl _)] at HI
      go_wp2_with fail
      go_loopw [3, 6] (fun v i wr => ∃ q : Nat, q ≤ 12 ∧ i = .int .i64 q ∧ Hid (wr.ownsRow N0 24 5 v (k + q) (flatX (L ++ mksX.take q)) ∧ (∀ p ∈ L, LpO wr N0 p) ∧ Below N0 w wr)) (fun _ i _ => 12 - (Lib.intOf i).toNat)
      case atStart => exact ⟨0, Nat.zero_le _, rfl, by simpa using HI.out.2.2.1, HI.out.2.2.2.1, HI.out.2.2.2.2⟩
      case round =>
        obtain ⟨q, hq, rfl, HQ⟩ := hrel
        have hSZ : N0 ≤ wr.heap.size := by have := HQ.out.2.2.size; have := HN0.out; omega
        by_cases hlt2 : q < 12
        · have hq12 : (q : Int) < 12 := by omega
          go_upto_region 10 with (fail)
          go_wp2_with (first
            | (go_at_call 63; refine (markX_any q _ hlt2).mono ?_; rintro e w2 ⟨rfl, hg2⟩; have HG2 := Lib.hid hg2.below; have HAL := Lib.hid ((Below.refl w2.heap.size w2).alloc (Nat.le_refl _) (.cells #[.string ⟨#[]⟩, .string ⟨#[]⟩, .string ⟨#[]⟩, .int .i64 (8000024 + q), .slice none 0 0] 24)); have HRW := Lib.hid (own_below (own_below HQ.out.1 HG2.out) HAL.out); have hs2 : N0 ≤ w2.heap.size := Nat.le_trans hSZ HG2.out.size; clear hg2)
            | (at_builtin; refine wpList_append_er rfl _ _ rfl (base := N0) Try.underlying26 hi9 hz9 hs9 hb9 rfl HRW.out rfl (ER.one w2 ⟨#[]⟩ ⟨#[]⟩ ⟨#[]⟩ (8000024 + q) [] (.slice none 0 0) (PR.nil _ _ _)) (by simp; omega) (by simp; omega) ?_; intro v' w4 hown' hgrow hloc; have HO4 := Lib.hid hown'; have HB4 := Lib.hid (show Below N0 w2 w4 from (HAL.out.mono hs2).grown hgrow (by simp; omega) (fun g hg => own_base HRW.out g hg)); have HG4 := Lib.hid hgrow; clear hown' hgrow hloc))
          have HLL := Lib.hid (show ∀ p ∈ L, LpO w4 N0 p from fun p hp => (((HQ.out.2.1 p hp).below HG2.out).below HAL.out).grow HRW.out HG4.out)
          have HBN := Lib.hid ((HQ.out.2.2.trans (HG2.out.mono hSZ)).trans HB4.out)
          go_roundw
          case measure => simp [Lib.intOf]; omega
          case rel =>
            refine ⟨q + 1, by omega, by go_num, ?_, HLL.out, HBN.out⟩
            rw [List.take_succ_eq_append_getElem (by rw [mksX_len]; exact hlt2), mksX_get, ← List.append_assoc, flatX_app, ← Nat.add_assoc]
            exact HO4.out
        · obtain rfl : q = 12 := by omega
          have hrow := HQ.out.1
          rw [List.take_of_length_le (by rw [mksX_len]; exact Nat.le_refl _)] at hrow
          obtain ⟨g, cap, rfl⟩ := ownsRow_succ (k := k + 11) hrow
          have hcap := own_room hrow
          have hc2 : k ≤ cap := by omega
          have HR2 := Lib.hid hrow
          clear hrow
          go_wp2_with fail
          go_ret
          exact ⟨_, _, L, rfl, HI.out.1, HI.out.2.1, HR2.out, fun p hp => (HQ.out.2.1 p hp).lp, HQ.out.2.2⟩
end Go.Proofs.Ytpoefcpgcojppaa

namespace Go.Proofs.Ytpoefcpgcojppaa
open Go.ChangeShapes Go.WideShapes Go.ChangeAt Go.RowKit
set_option linter.unusedVariables false

theorem copyP_any {w : World} {v : Value} {l : List Pt} (h : PR w v l) (hl : l.length ≤ 1000000) : Calls Try.prog 68 #[v] w (ClonP l w) := by
  unfold ClonP
  obtain ⟨i9, hi9, hz9, hs9, hb9⟩ := info_parts53
  have H := Lib.hid h
  go_enter Try.func68, Try.ntmps68
  go_wp2_with (at_builtin; refine wpList_append_pr (v := .slice none 0 0) rfl _ _ rfl Try.underlying22 hi9 hz9 hs9 hb9 rfl (World.ownsRow_nil w w.heap.size 53 4) rfl H.out (by omega) (Nat.le_refl _) ?_; intro mv w1 hown1 hgrow1 hloc1)
  have hB1 : Below w.heap.size w w1 := (Below.refl _ w).grown hgrow1 (Nat.le_refl _) (fun k hk => by cases hk)
  go_ret
  exact ⟨_, rfl, by simpa using hown1, hB1⟩

def CopyR (x : Ed) (w : World) (e : Ending) (w' : World) : Prop :=
  ∃ A c, e = .returned (x.v (.slice A x.props.length c)) ∧ w'.ownsRow w.heap.size 53 4 (.slice A x.props.length c) x.props.length (flatP x.props) ∧ Below w.heap.size w w'
set_option maxHeartbeats 2000000 in
theorem copyE_any {w : World} {x : Ed} {v : Value} (h : PR w v x.props) (hl : x.props.length ≤ 1000000) : Calls Try.prog 35 #[x.v v] w (CopyR x w) := by
  unfold CopyR
  obtain ⟨A, n, c, rfl⟩ := slice_any h
  have f37 := fun W (hW : Below w.heap.size w W) => copyP_any (h.below hW) hl
  unfold ClonP at f37
  obtain ⟨m, hm⟩ : ∃ m, x.props.length = m := ⟨_, rfl⟩
  rw [hm] at f37 ⊢
  have F37 := Lib.hid f37
  unfold Ed.v
  have hb0 : Below w.heap.size w ((w.alloc (.cells #[.string x.src, .string x.dst, .string x.lab, .int .i64 x.time, .slice A n c] 24)).alloc zE5) := ((Below.refl _ w).alloc (Nat.le_refl _) _).alloc (by simp) _
  have HB0 := Lib.hid hb0
  have hE0 : EB ((w.alloc (.cells #[.string x.src, .string x.dst, .string x.lab, .int .i64 x.time, .slice A n c] 24)).alloc zE5) w.heap.size x.src x.dst x.lab x.time (.slice A n c) := (Below.heap_alloc _ _ _ (by simp)).trans (heap_alloc_new w _)
  have HE0 := Lib.hid hE0
  have hR0 := heap_alloc_new (w.alloc (.cells #[.string x.src, .string x.dst, .string x.lab, .int .i64 x.time, .slice A n c] 24)) zE5
  rw [World.size_alloc] at hR0
  have HR0 := Lib.hid hR0
  clear f37 hm h hl hb0 hE0 hR0
  obtain ⟨s, d, l, t, ps⟩ := x
  simp only at *
  go_enter Try.func35, Try.ntmps35
  go_wp2_with (go_at_call 68; refine (F37.out _ HB0.out).mono ?_; clear F37; rintro z w1 ⟨v1, hz, hrow, hw⟩; subst hz; obtain ⟨A1, cc, rfl⟩ := row_form4 hrow; have HROW := Lib.hid hrow; have HB1 := Lib.hid hw; have hE1 : EB w1 w.heap.size s d l t (.slice A n c) := heap_keep hw HE0.out; have hR1 : w1.heap[w.heap.size + 1]? = some (.cells #[.string ⟨#[]⟩, .string ⟨#[]⟩, .string ⟨#[]⟩, .int .i64 0, .slice none 0 0] 24 (0, 0)) := heap_keep hw HR0.out; obtain ⟨c0, c1, c2, c3, c4⟩ := EB.at5 hE1; have g4 := (EB.fz hE1).2.2.2.2; obtain ⟨d0, d1, d2, d3, d4, _⟩ := Bx5.of hR1; obtain ⟨f0, f1, f2, f3, f4⟩ := Fx5.of hR1; clear hE1 hR1 hrow hw)
  have hz := HB1.out.size
  have hbase : w.heap.size + 1 < ((w.alloc (.cells #[.string s, .string d, .string l, .int .i64 t, .slice A n c] 24)).alloc zE5).heap.size := by simp
  have hW : Below w.heap.size w (w1.setCell ⟨w.heap.size, 4, none⟩ (.slice A1 m cc)) := (HB0.out.trans (HB1.out.mono HB0.out.size)).setCell (p := ⟨w.heap.size, 4, none⟩) (Nat.le_refl _) _
  have hrow1 := ownsRow_setCell_below HROW.out (a := ⟨w.heap.size, 4, none⟩) (by show w.heap.size < _; omega) (.slice A1 m cc)
  exact bodyPost_ret (v := .agg #[.string s, .string d, .string l, .int .i64 t, .slice A1 m cc]) (by simp [results, Try.results35, go_sem, d0, d1, d2, d3, d4, f0, f1, f2, f3, f4]) rfl ⟨A1, cc, rfl, own_lower (ownsRow_setCell_below (ownsRow_setCell_below (ownsRow_setCell_below (ownsRow_setCell_below (ownsRow_setCell_below hrow1 (a := ⟨w.heap.size + 1, 0, none⟩) hbase _) (a := ⟨w.heap.size + 1, 1, none⟩) hbase _) (a := ⟨w.heap.size + 1, 2, none⟩) hbase _) (a := ⟨w.heap.size + 1, 3, none⟩) hbase _) (a := ⟨w.heap.size + 1, 4, none⟩) hbase _) HB0.out.size, hW.trans (below_set5 (Nat.le_succ _) _ _ _ _ _)⟩

/-- texts are small -/
def SmP (q : Pt) : Prop := q.1.size ≤ 1000 ∧ q.2.2.2.size ≤ 1000
def SmE (e : Ed) : Prop := e.src.size ≤ 1000 ∧ e.dst.size ≤ 1000 ∧ e.lab.size ≤ 1000 ∧ e.props.length ≤ 1000 ∧ ∀ q ∈ e.props, SmP q
theorem SmE.sz {e : Ed} (h : SmE e) : SzE e := by
  obtain ⟨h1, h2, h3, h4, h5⟩ := h
  exact ⟨by omega, by omega, by omega, by omega, fun p hp => ⟨by have := (h5 p hp).1; omega, by have := (h5 p hp).2; omega⟩⟩
/-- what may lie in the j-th cell of a row of props -/
def Fits (j : Nat) (u : Value) : Prop := (j % 4 = 0 ∧ ∃ s : ByteArray, s.size ≤ 1000 ∧ u = .string s) ∨ ((j % 4 = 1 ∨ j % 4 = 2) ∧ ∃ k : Int, u = .int .i64 k) ∨ (j % 4 = 3 ∧ ∃ s : ByteArray, s.size ≤ 1000 ∧ u = .string s)
theorem flatP_set : ∀ (l : List Pt) (j : Nat) (u : Value), Fits j u → (∀ q ∈ l, SmP q) → ∃ l' : List Pt, l'.length = l.length ∧ (flatP l).set j u = flatP l' ∧ ∀ q ∈ l', SmP q
  | [], j, u, _, _ => ⟨[], rfl, by simp [flatP], by simp⟩
  | x :: l, j, u, hf, hs => by
    by_cases hj : j < 4
    · have hx := hs x (List.mem_cons_self ..)
      have hl := fun q hq => hs q (List.mem_cons_of_mem _ hq)
      rcases hf with ⟨h, s, h1, rfl⟩ | ⟨h, k, rfl⟩ | ⟨h, s, h1, rfl⟩
      · obtain rfl : j = 0 := by omega
        refine ⟨(s, x.2) :: l, rfl, by simp [flatP_cons], fun q hq => ?_⟩
        rcases List.mem_cons.1 hq with rfl | hq
        · exact ⟨h1, hx.2⟩
        · exact hl q hq
      · rcases h with h | h
        · obtain rfl : j = 1 := by omega
          refine ⟨(x.1, k, x.2.2) :: l, rfl, by simp [flatP_cons], fun q hq => ?_⟩
          rcases List.mem_cons.1 hq with rfl | hq
          · exact hx
          · exact hl q hq
        · obtain rfl : j = 2 := by omega
          refine ⟨(x.1, x.2.1, k, x.2.2.2) :: l, rfl, by simp [flatP_cons], fun q hq => ?_⟩
          rcases List.mem_cons.1 hq with rfl | hq
          · exact hx
          · exact hl q hq
      · obtain rfl : j = 3 := by omega
        refine ⟨(x.1, x.2.1, x.2.2.1, s) :: l, rfl, by simp [flatP_cons], fun q hq => ?_⟩
        rcases List.mem_cons.1 hq with rfl | hq
        · exact ⟨hx.1, h1⟩
        · exact hl q hq
    · obtain ⟨i, rfl⟩ : ∃ i, j = i + 4 := ⟨j - 4, by omega⟩
      have hf' : Fits i u := by
        unfold Fits at hf ⊢
        rwa [Nat.add_mod_right] at hf
      obtain ⟨l', e1, e2, e3⟩ := flatP_set l i u hf' (fun q hq => hs q (List.mem_cons_of_mem _ hq))
      refine ⟨x :: l', by simp [e1], ?_, fun q hq => ?_⟩
      · rw [flatP_cons, flatP_cons, ← e2]
        simp only [List.set_cons_succ]
      · rcases List.mem_cons.1 hq with rfl | hq
        · exact hs _ (List.mem_cons_self ..)
        · exact e3 q hq
/-- an edge among the rows that are changed -/
def EOk (w : World) (N : Nat) (p : Ev) : Prop := SmE p.1 ∧ p.1.props.length = 2 ∧ Own53 w N p
theorem EOk.below {w w' : World} {N : Nat} {p : Ev} (h : EOk w N p) (hb : Below w.heap.size w w') : EOk w' N p := ⟨h.1, h.2.1, own_below h.2.2 hb⟩
theorem own_setAny {w : World} {base n sz g j : Nat} {t : TypeId} {v : Value} {xs : List Value} (h : w.ownsRow base t sz v n xs) (u : Value) : (w.setCell ⟨g, j, none⟩ u).ownsRow base t sz v n xs ∨ (∃ c, v = .slice (some ⟨g, 0, none⟩) n c ∧ (w.setCell ⟨g, j, none⟩ u).ownsRow base t sz v n (xs.set j u)) := by
  rcases h.2 with hn | ⟨b, cap, cur, rfl, hb, hh, rest⟩
  · exact .inl ⟨h.1, .inl hn⟩
  · by_cases e : b = g
    · subst e
      exact .inr ⟨cap, rfl, own_setCell h u⟩
    · exact .inl ⟨h.1, .inr ⟨b, cap, cur, rfl, hb, ((set1_keep w g j u).block b (Array.getElem?_eq_some_iff.1 hh).1 e).trans hh, rest⟩⟩
theorem EOk.set {w : World} {N g j : Nat} {u : Value} {p : Ev} (h : EOk w N p) (hf : Fits j u) : ∃ ps : List Pt, EOk (w.setCell ⟨g, j, none⟩ u) N (⟨p.1.src, p.1.dst, p.1.lab, p.1.time, ps⟩, p.2) := by
  obtain ⟨⟨s1, s2, s3, s4, s5⟩, h2, h3⟩ := h
  rcases own_setAny (g := g) (j := j) h3 u with h | ⟨c, e, h⟩
  · exact ⟨p.1.props, ⟨s1, s2, s3, s4, s5⟩, h2, h⟩
  · obtain ⟨l', e1, e2, e3⟩ := flatP_set p.1.props j u hf s5
    refine ⟨l', ⟨s1, s2, s3, by simp only; rw [e1]; exact s4, e3⟩, by simp only; rw [e1]; exact h2, ?_⟩
    show World.ownsRow _ N 53 4 p.2 l'.length (flatP l')
    rw [e1, ← e2]
    exact h
/-- a row of such edges -/
structure ROk (w : World) (N : Nat) (v : Value) (n : Nat) (Q : List Ev) : Prop where
  len : Q.length = n
  own : w.ownsRow N 24 5 v n (flatX Q)
  each : ∀ p ∈ Q, EOk w N p
theorem ROk.below {w w' : World} {N n : Nat} {v : Value} {Q : List Ev} (h : ROk w N v n Q) (hb : Below w.heap.size w w') : ROk w' N v n Q := ⟨h.len, own_below h.own hb, fun p hp => (h.each p hp).below hb⟩
theorem ROk.er {w : World} {N n : Nat} {v : Value} {Q : List Ev} (h : ROk w N v n Q) : ER w v Q := ER.of_own h.own fun p hp => (h.each p hp).2.2.pr
theorem forall_list {P : Ev → Ev → Prop} : ∀ (Q : List Ev), (∀ p ∈ Q, ∃ p', P p p') → ∃ Q' : List Ev, Q'.length = Q.length ∧ ∀ j (h : j < Q.length) (h' : j < Q'.length), P Q[j] Q'[j]
  | [], _ => ⟨[], rfl, fun j h => absurd h (by simp)⟩
  | a :: Q, h => by
    obtain ⟨a', ha⟩ := h a (List.mem_cons_self ..)
    obtain ⟨Q', e1, e2⟩ := forall_list Q (fun p hp => h p (List.mem_cons_of_mem _ hp))
    refine ⟨a' :: Q', by simp [e1], fun j hj hj' => ?_⟩
    match j with
    | 0 => exact ha
    | j + 1 => exact e2 j (by simpa using hj) (by simpa using hj')
theorem flatX_same : ∀ (Q Q' : List Ev), Q'.length = Q.length → (∀ j (h : j < Q.length) (h' : j < Q'.length), encX Q'[j] = encX Q[j]) → flatX Q' = flatX Q
  | [], [], _, _ => rfl
  | a :: Q, b :: Q', hl, h => by
    have h0 := h 0 (by simp) (by simp)
    have := flatX_same Q Q' (by simpa using hl) (fun j hj hj' => by have := h (j + 1) (by simpa using hj) (by simpa using hj'); simpa using this)
    unfold flatX at this ⊢
    rw [List.flatMap_cons, List.flatMap_cons, this]
    simp only [List.getElem_cons_zero] at h0
    rw [h0]
/-- a prop's cell is changed -/
theorem ROk.setP {w : World} {N n g j : Nat} {v u : Value} {Q : List Ev} {cur : Array Value} (h : ROk w N v n Q) (hg : w.heap[g]? = some (.cells cur 53 (0, 0))) (hf : Fits j u) : ∃ Q', ROk (w.setCell ⟨g, j, none⟩ u) N v n Q' := by
  obtain ⟨Q', e1, e2⟩ := forall_list (P := fun p p' => EOk (w.setCell ⟨g, j, none⟩ u) N p' ∧ encX p' = encX p) Q (fun p hp => by
    obtain ⟨ps, h1⟩ := (h.each p hp).set (g := g) hf
    exact ⟨_, h1, rfl⟩)
  refine ⟨Q', e1.trans h.len, ?_, fun p hp => ?_⟩
  · rw [flatX_same Q Q' e1 (fun j hj hj' => (e2 j hj hj').2)]
    rcases own_setAny (g := g) (j := j) h.own u with h1 | ⟨c, e, _⟩
    · exact h1
    · exfalso
      rcases h.own.2 with ⟨e', _⟩ | ⟨b, cap, cur', e', _, hh, _⟩
      · rw [e'] at e; cases e
      · rw [e'] at e
        injection e with e1 _ _
        injection e1 with e1
        injection e1 with e1
        subst e1
        rw [hg] at hh
        injection hh with hh
        injection hh with _ hh
        exact absurd hh (by decide)
  · obtain ⟨k, hk, rfl⟩ := List.mem_iff_getElem.1 hp
    exact (e2 k (by rw [← e1]; exact hk) hk).1
theorem flatX_set0 : ∀ (R : List Ev) (k b : Nat) (u : Value) (hk : k < R.length) (y : Ev), (encX R[k]).set b u = encX y → b < 5 → (flatX R).set (k * 5 + b) u = flatX (R.set k y)
  | x :: R, 0, b, u, hk, y, h, hb => by
    simp only [List.getElem_cons_zero] at h
    unfold flatX
    rw [List.set_cons_zero, List.flatMap_cons, List.flatMap_cons, ← h, Nat.zero_mul, Nat.zero_add, List.set_append_left _ _ (by simp [encX]; omega)]
  | x :: R, k + 1, b, u, hk, y, h, hb => by
    simp only [List.getElem_cons_succ] at h
    have := flatX_set0 R k b u (by simpa using hk) y h hb
    rw [List.set_cons_succ, flatX_cons, flatX_cons, ← this, show (k + 1) * 5 + b = k * 5 + b + 1 + 1 + 1 + 1 + 1 by omega]
    simp only [List.set_cons_succ]
/-- an edge's cell is changed -/
theorem ROk.setX {w : World} {N n g c k b : Nat} {u : Value} {Q : List Ev} (h : ROk w N (.slice (some ⟨g, 0, none⟩) n c) n Q) (hk : k < n) (hu : (b < 3 ∧ ∃ s : ByteArray, s.size ≤ 1000 ∧ u = .string s) ∨ (b = 3 ∧ ∃ t : Int, u = .int .i64 t)) : ∃ Q', ROk (w.setCell ⟨g, k * 5 + b, none⟩ u) N (.slice (some ⟨g, 0, none⟩) n c) n Q' := by
  have hkQ : k < Q.length := by rw [h.len]; exact hk
  have hy : ∃ y : Ev, (encX Q[k]).set b u = encX y ∧ SmE y.1 ∧ y.1.props = Q[k].1.props ∧ y.2 = Q[k].2 := by
    obtain ⟨⟨s1, s2, s3, s4, s5⟩, _⟩ := h.each _ (List.getElem_mem hkQ)
    rcases hu with ⟨hb, s, hs, rfl⟩ | ⟨rfl, t, rfl⟩
    · match b, hb with
      | 0, _ => exact ⟨(⟨s, Q[k].1.dst, Q[k].1.lab, Q[k].1.time, Q[k].1.props⟩, Q[k].2), by simp [encX], ⟨hs, s2, s3, s4, s5⟩, rfl, rfl⟩
      | 1, _ => exact ⟨(⟨Q[k].1.src, s, Q[k].1.lab, Q[k].1.time, Q[k].1.props⟩, Q[k].2), by simp [encX], ⟨s1, hs, s3, s4, s5⟩, rfl, rfl⟩
      | 2, _ => exact ⟨(⟨Q[k].1.src, Q[k].1.dst, s, Q[k].1.time, Q[k].1.props⟩, Q[k].2), by simp [encX], ⟨s1, s2, hs, s4, s5⟩, rfl, rfl⟩
    · exact ⟨(⟨Q[k].1.src, Q[k].1.dst, Q[k].1.lab, t, Q[k].1.props⟩, Q[k].2), by simp [encX], ⟨s1, s2, s3, s4, s5⟩, rfl, rfl⟩
  obtain ⟨y, y1, y2, y3, y4⟩ := hy
  have hb5 : b < 5 := by rcases hu with ⟨h, _⟩ | ⟨h, _⟩ <;> omega
  have hset : ∀ p ∈ Q, EOk (w.setCell ⟨g, k * 5 + b, none⟩ u) N p := fun p hp => ⟨(h.each p hp).1, (h.each p hp).2.1, own_set_other (h.each p hp).2.2 h.own (by decide)⟩
  refine ⟨Q.set k y, by rw [List.length_set]; exact h.len, ?_, fun p hp => ?_⟩
  · rw [← flatX_set0 Q k b u hkQ y y1 hb5]
    exact own_setCell h.own u
  · obtain ⟨j, hj, rfl⟩ := List.mem_iff_getElem.1 hp
    rw [List.length_set] at hj
    by_cases e : k = j
    · subst e
      rw [List.getElem_set_self]
      have h1 := hset _ (List.getElem_mem hkQ)
      refine ⟨y2, by rw [y3]; exact h1.2.1, ?_⟩
      show World.ownsRow _ N 53 4 y.2 y.1.props.length (flatP y.1.props)
      rw [y3, y4]
      exact h1.2.2
    · rw [List.getElem_set_ne e]
      exact hset _ (List.getElem_mem hj)
end Go.Proofs.Ytpoefcpgcojppaa
