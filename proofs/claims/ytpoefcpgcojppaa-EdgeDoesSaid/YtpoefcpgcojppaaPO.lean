/- Walk of Parse. -/
import Derived.Test.YtpoefcpgcojppaaPN
namespace Go.Proofs.Ytpoefcpgcojppaa
open Go.ChangeShapes Go.WideShapes Go.ChangeAt Go.RowKit
set_option linter.unusedVariables false

/-- what is parsed: the edge, told with its props; the error's number -/
def ParsR (r : Ed × Int) (w : World) (x : Ending) (w' : World) : Prop := ∃ pv, x = .returned (.tuple #[r.1.v pv, .int .i64 r.2]) ∧ PR w' pv r.1.props ∧ Below w.heap.size w w'

theorem equal_any {w : World} {v1 v2 : Value} {x y : List UInt8} (h1 : BR w v1 x) (h2 : BR w v2 y) : Calls Try.prog 58 #[v1, v2] w fun e w' => e = .returned (.bool (decide (x = y))) ∧ w = w' := by
  refine (Try.bytes_Equal_strs v1 v2 (bT x) (bT y) w (conv_br h1) (conv_br h2)).mono ?_
  rintro e w' ⟨he, hw⟩
  refine ⟨?_, hw.symm⟩
  rw [he]
  refine ret_bool ?_
  rw [Bool.eq_iff_iff]
  simp [bT]

theorem szP_guess (l : List UInt8) : SzE (guess l) := by
  have hs := rdT_small
  refine ⟨by have := hs l; exact Nat.le_trans this (by omega), by have := hs (g1 l); exact Nat.le_trans this (by omega), by have := hs (g2 l); exact Nat.le_trans this (by omega), ?_, ?_⟩
  · show (rdPs (gN l) (g5 l)).1.length ≤ _
    rw [rdPs_num]
    have := (beN1 (g4 l)).2
    unfold gN
    omega
  · have h : ∀ n (b : List UInt8), ∀ p ∈ (rdPs n b).1, p.1.size ≤ 281474976710656 ∧ p.2.2.2.size ≤ 281474976710656 := by
      intro n
      induction n with
      | zero => intro b p hp; simp [rdPs] at hp
      | succ n ih =>
        intro b p hp
        have hp' : p ∈ (rdPs n b).1 ++ [(rdP (rdPs n b).2).1] := hp
        rcases List.mem_append.1 hp' with h1 | h1
        · exact ih b p h1
        · have h2 := List.mem_singleton.1 h1
          subst h2
          refine ⟨Nat.le_trans (hs _) (by omega), ?_⟩
          show (rdV (rdT (rdPs n b).2).2).1.2.2.size ≤ _
          unfold rdV
          split
          · exact Nat.zero_le _
          · split
            · exact Nat.le_trans (hs _) (by omega)
            · exact Nat.zero_le _
    exact h _ _

theorem row_form3 {w : World} {base n sz : Nat} {t : TypeId} {v : Value} {xs : List Value} (h : w.ownsRow base t sz v n xs) : ∃ A m c, v = .slice A m c := by
  rcases h.2 with ⟨rfl, rfl⟩ | ⟨g, cap, cur, rfl, _⟩
  · exact ⟨_, _, _, rfl⟩
  · exact ⟨_, _, _, rfl⟩
theorem heap_keep {w w' : World} {b : Nat} {o : Obj} (hb : Below w.heap.size w w') (h : w.heap[b]? = some o) : w'.heap[b]? = some o := (hb.block b (Array.getElem?_eq_some_iff.1 h).1).trans h
theorem below_set5 {w : World} {N E : Nat} (h : N ≤ E) (a0 a1 a2 a3 a4 : Value) : Below N w (((((w.setCell ⟨E, 0, none⟩ a0).setCell ⟨E, 1, none⟩ a1).setCell ⟨E, 2, none⟩ a2).setCell ⟨E, 3, none⟩ a3).setCell ⟨E, 4, none⟩ a4) :=
  (((((Below.refl N w).setCell (p := ⟨E, 0, none⟩) h a0).setCell (p := ⟨E, 1, none⟩) h a1).setCell (p := ⟨E, 2, none⟩) h a2).setCell (p := ⟨E, 3, none⟩) h a3).setCell (p := ⟨E, 4, none⟩) h a4

set_option maxHeartbeats 4000000 in
set_option maxRecDepth 100000 in
theorem parse_any {w : World} {v : Value} {l : List UInt8} (h : BR w v l) (hcap : ∀ A n c, v = .slice A n c → n ≤ c ∧ (A = none → c = 0)) (hl : l.length ≤ 281474976710656) : Calls Try.prog 25 #[v] w (ParsR (parseE l) w) := by
  unfold ParsR
  have hg : ∀ W, Below w.heap.size w W → Calls Try.prog 57 #[v] W (GuessR (guess l) W) := fun W hW => guess_any (h.below hW) hcap hl
  have hp : ∀ W pv, PR W pv (guess l).props → Calls Try.prog 14 #[(guess l).v pv] W (PutsR (guess l) W) := fun W pv hpv => put_any hpv (szP_guess l)
  have H := Lib.hid h
  unfold GuessR at hg
  unfold PutsR at hp
  have HPC := Lib.hid (parse_cases l)
  have HPB : Hid (checkE (guess l) = 0 → putB (guess l) = putE (guess l)) := fun h => by unfold putB; rw [if_pos h]
  generalize guess l = g at *
  have FG := Lib.hid hg
  have FP := Lib.hid hp
  obtain ⟨A, c, rfl⟩ := h.form
  have HB0 := Lib.hid ((Below.refl w.heap.size w).alloc (Nat.le_refl _) zE5)
  clear hg hp h hcap
  have hzv : zeroE.v (.slice none 0 0) = .agg #[.string ⟨#[]⟩, .string ⟨#[]⟩, .string ⟨#[]⟩, .int .i64 0, .slice none 0 0] := rfl
  unfold Ed.v at FG FP
  by_cases hc0 : checkE g = 0
  · rw [HPB hc0, hc0] at FP
    by_cases he : putE g = l
    · have HPE := Lib.hid (show parseE l = (g, 0) by
        rcases HPC.out with ⟨_, _, h⟩ | ⟨h, _⟩
        · exact h
        · exact absurd he (h g hc0))
      have hd : decide (putE g = l) = true := decide_eq_true he
      clear HPB hc0 he
      go_enter Try.func25, Try.ntmps25
      go_wp2_with (first
        | (go_at_call 57; refine (FG.out _ HB0.out).mono ?_; clear FG; rintro x w1 ⟨pv, rfl, o1, b1⟩; have HPW := Lib.hid (fun gg hgg => Nat.ne_of_gt (Nat.lt_of_lt_of_le (show w.heap.size < (w.alloc zE5).heap.size by simp) (own_base o1 gg hgg))); have HO := Lib.hid (PR.of_own o1); obtain ⟨Ap, np, cp, hpv⟩ := row_form3 o1; subst hpv; have HB1 := Lib.hid (HB0.out.trans (b1.mono (by simp))); have HR1 := Lib.hid ((b1.block w.heap.size (by simp)).trans (heap_alloc_new w zE5)); clear o1 b1)
        | (go_at_call 14; refine (FP.out _ _ (HO.out.below ((Below.refl _ w1).alloc (Nat.le_refl _) _))).mono ?_; clear FP; rintro x w2 ⟨pb, hx, hbr, b2⟩; subst hx; have hs1 : w.heap.size < w1.heap.size := (Array.getElem?_eq_some_iff.1 HR1.out).1; have HE2 := Lib.hid (heap_keep b2 (heap_alloc_new w1 (.cells #[.string g.src, .string g.dst, .string g.lab, .int .i64 g.time, .slice Ap np cp] 24))); have HR2 := Lib.hid (heap_keep b2 ((Below.heap_alloc w1 (.cells #[.string g.src, .string g.dst, .string g.lab, .int .i64 g.time, .slice Ap np cp] 24) _ hs1).trans HR1.out)); obtain ⟨c0, c1, c2, c3, c4, _⟩ := Bx5.of HE2.out; obtain ⟨d0, d1, d2, d3, d4, _⟩ := Bx5.of HR2.out; obtain ⟨f0, f1, f2, f3, f4⟩ := Fx5.of HR2.out; have HBW2 := Lib.hid (show Below w1.heap.size w1 w2 from ((Below.refl _ w1).alloc (Nat.le_refl _) _).trans (b2.mono (by simp))); have HFB := Lib.hid (HB1.out.trans (HBW2.out.mono (Nat.le_of_lt hs1))); have HPR2 := Lib.hid (HO.out.below HBW2.out); have HBR := Lib.hid hbr; obtain ⟨Ab, cb, hfb⟩ := hbr.form; subst hfb; clear hbr b2 hs1)
        | (go_at_call 58; refine (equal_any HBR.out (H.out.below HFB.out)).mono ?_; rintro x w3 ⟨hx, hw3⟩; subst hx; subst hw3))
      exact bodyPost_ret (v := .tuple #[.agg #[.string g.src, .string g.dst, .string g.lab, .int .i64 g.time, .slice Ap np cp], .int .i64 0]) (by simp [results, Try.results25, go_sem, d0, d1, d2, d3, d4, f0, f1, f2, f3, f4]) rfl ⟨.slice Ap np cp, by rw [HPE.out]; rfl, by rw [HPE.out]; first | exact PR.nil _ _ _ | exact HPR2.out.keep (set5_keep _ _ _ _ _ _ _) (fun _ gg hgg _ => HPW.out gg hgg), HFB.out.trans (below_set5 (Nat.le_refl _) _ _ _ _ _)⟩
    · have HPE := Lib.hid (show parseE l = (zeroE, 4) by
        rcases HPC.out with ⟨_, h, _⟩ | ⟨_, h⟩
        · exact absurd h he
        · exact h)
      have hd : decide (putE g = l) = false := decide_eq_false he
      clear HPB hc0 he
      go_enter Try.func25, Try.ntmps25
      go_wp2_with (first
        | (go_at_call 57; refine (FG.out _ HB0.out).mono ?_; clear FG; rintro x w1 ⟨pv, rfl, o1, b1⟩; have HPW := Lib.hid (fun gg hgg => Nat.ne_of_gt (Nat.lt_of_lt_of_le (show w.heap.size < (w.alloc zE5).heap.size by simp) (own_base o1 gg hgg))); have HO := Lib.hid (PR.of_own o1); obtain ⟨Ap, np, cp, hpv⟩ := row_form3 o1; subst hpv; have HB1 := Lib.hid (HB0.out.trans (b1.mono (by simp))); have HR1 := Lib.hid ((b1.block w.heap.size (by simp)).trans (heap_alloc_new w zE5)); clear o1 b1)
        | (go_at_call 14; refine (FP.out _ _ (HO.out.below ((Below.refl _ w1).alloc (Nat.le_refl _) _))).mono ?_; clear FP; rintro x w2 ⟨pb, hx, hbr, b2⟩; subst hx; have hs1 : w.heap.size < w1.heap.size := (Array.getElem?_eq_some_iff.1 HR1.out).1; have HE2 := Lib.hid (heap_keep b2 (heap_alloc_new w1 (.cells #[.string g.src, .string g.dst, .string g.lab, .int .i64 g.time, .slice Ap np cp] 24))); have HR2 := Lib.hid (heap_keep b2 ((Below.heap_alloc w1 (.cells #[.string g.src, .string g.dst, .string g.lab, .int .i64 g.time, .slice Ap np cp] 24) _ hs1).trans HR1.out)); obtain ⟨c0, c1, c2, c3, c4, _⟩ := Bx5.of HE2.out; obtain ⟨d0, d1, d2, d3, d4, _⟩ := Bx5.of HR2.out; obtain ⟨f0, f1, f2, f3, f4⟩ := Fx5.of HR2.out; have HBW2 := Lib.hid (show Below w1.heap.size w1 w2 from ((Below.refl _ w1).alloc (Nat.le_refl _) _).trans (b2.mono (by simp))); have HFB := Lib.hid (HB1.out.trans (HBW2.out.mono (Nat.le_of_lt hs1))); have HPR2 := Lib.hid (HO.out.below HBW2.out); have HBR := Lib.hid hbr; obtain ⟨Ab, cb, hfb⟩ := hbr.form; subst hfb; clear hbr b2 hs1)
        | (go_at_call 58; refine (equal_any HBR.out (H.out.below HFB.out)).mono ?_; rintro x w3 ⟨hx, hw3⟩; subst hx; subst hw3))
      exact bodyPost_ret (v := .tuple #[.agg #[.string ⟨#[]⟩, .string ⟨#[]⟩, .string ⟨#[]⟩, .int .i64 0, .slice none 0 0], .int .i64 4]) (by simp [results, Try.results25, go_sem, d0, d1, d2, d3, d4, f0, f1, f2, f3, f4]) rfl ⟨.slice none 0 0, by rw [HPE.out]; rfl, by rw [HPE.out]; first | exact PR.nil _ _ _ | exact HPR2.out.keep (set5_keep _ _ _ _ _ _ _) (fun _ gg hgg _ => HPW.out gg hgg), HFB.out.trans (below_set5 (Nat.le_refl _) _ _ _ _ _)⟩
  · have HPE := Lib.hid (show parseE l = (zeroE, 4) by
      rcases HPC.out with ⟨h, _⟩ | ⟨_, h⟩
      · exact absurd h hc0
      · exact h)
    obtain ⟨cc, hcc⟩ : ∃ c, checkE g = c := ⟨_, rfl⟩
    rw [hcc] at FP hc0
    have hb : (cc != 0) = true := by simpa using hc0
    clear HPB hc0 hcc
    go_enter Try.func25, Try.ntmps25
    go_wp2_with (first
      | (go_at_call 57; refine (FG.out _ HB0.out).mono ?_; clear FG; rintro x w1 ⟨pv, rfl, o1, b1⟩; have HPW := Lib.hid (fun gg hgg => Nat.ne_of_gt (Nat.lt_of_lt_of_le (show w.heap.size < (w.alloc zE5).heap.size by simp) (own_base o1 gg hgg))); have HO := Lib.hid (PR.of_own o1); obtain ⟨Ap, np, cp, hpv⟩ := row_form3 o1; subst hpv; have HB1 := Lib.hid (HB0.out.trans (b1.mono (by simp))); have HR1 := Lib.hid ((b1.block w.heap.size (by simp)).trans (heap_alloc_new w zE5)); clear o1 b1)
      | (go_at_call 14; refine (FP.out _ _ (HO.out.below ((Below.refl _ w1).alloc (Nat.le_refl _) _))).mono ?_; clear FP; rintro x w2 ⟨pb, hx, hbr, b2⟩; subst hx; have hs1 : w.heap.size < w1.heap.size := (Array.getElem?_eq_some_iff.1 HR1.out).1; have HE2 := Lib.hid (heap_keep b2 (heap_alloc_new w1 (.cells #[.string g.src, .string g.dst, .string g.lab, .int .i64 g.time, .slice Ap np cp] 24))); have HR2 := Lib.hid (heap_keep b2 ((Below.heap_alloc w1 (.cells #[.string g.src, .string g.dst, .string g.lab, .int .i64 g.time, .slice Ap np cp] 24) _ hs1).trans HR1.out)); obtain ⟨c0, c1, c2, c3, c4, _⟩ := Bx5.of HE2.out; obtain ⟨d0, d1, d2, d3, d4, _⟩ := Bx5.of HR2.out; obtain ⟨f0, f1, f2, f3, f4⟩ := Fx5.of HR2.out; have HBW2 := Lib.hid (show Below w1.heap.size w1 w2 from ((Below.refl _ w1).alloc (Nat.le_refl _) _).trans (b2.mono (by simp))); have HFB := Lib.hid (HB1.out.trans (HBW2.out.mono (Nat.le_of_lt hs1))); have HPR2 := Lib.hid (HO.out.below HBW2.out); have HBR := Lib.hid hbr; obtain ⟨Ab, cb, hfb⟩ := hbr.form; subst hfb; clear hbr b2 hs1)
      | (go_at_call 58; refine (equal_any HBR.out (H.out.below HFB.out)).mono ?_; rintro x w3 ⟨hx, hw3⟩; subst hx; subst hw3))
    exact bodyPost_ret (v := .tuple #[.agg #[.string ⟨#[]⟩, .string ⟨#[]⟩, .string ⟨#[]⟩, .int .i64 0, .slice none 0 0], .int .i64 4]) (by simp [results, Try.results25, go_sem, d0, d1, d2, d3, d4, f0, f1, f2, f3, f4]) rfl ⟨.slice none 0 0, by rw [HPE.out]; rfl, by rw [HPE.out]; first | exact PR.nil _ _ _ | exact HPR2.out.keep (set5_keep _ _ _ _ _ _ _) (fun _ gg hgg _ => HPW.out gg hgg), HFB.out.trans (below_set5 (Nat.le_refl _) _ _ _ _ _)⟩
end Go.Proofs.Ytpoefcpgcojppaa
