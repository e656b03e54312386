/- Walks of what tells a text, a value, of the bytes that are still to be read. -/
import Derived.Test.YtpoefcpgcojppaaPJ
namespace Go.Proofs.Ytpoefcpgcojppaa
open Go.ChangeShapes Go.WideShapes Go.ChangeAt Go.RowKit
set_option linter.unusedVariables false

theorem conv_br {w : World} {v : Value} {l : List UInt8} (h : BR w v l) : (convert 34 9 v).run Try.prog w = .ok (.string (bT l)) w := by
  obtain ⟨A, c, rfl, hc⟩ := h
  cases A with
  | none =>
    have h0 : l = [] := by
      cases l with
      | nil => rfl
      | cons a r =>
        obtain ⟨ad, e, _⟩ := hc (by simp)
        cases e
    subst h0
    show (convert 34 9 (.slice none 0 c)).run Try.prog w = _
    rw [run_convert_bytes_string w 34 9 5 none 0 c Try.underlying34 Try.underlying5 Try.underlying9]
    rfl
  | some ad =>
    exact run_convert_bytes_back w 34 9 5 ad c l Try.underlying34 Try.underlying5 Try.underlying9 (fun j hj => by
      obtain ⟨ad', e, _, hcc⟩ := hc (by omega)
      injection e with e
      rw [e]
      exact hcc _ _ (byC_at l j hj))

/-- the closures' own cells -/
structure Env (w : World) (B NX NB : Nat) : Prop where
  nx : w.cell? ⟨NX, 0, none⟩ = some (.func (.func 80) #[] #[.pointer (some ⟨B, 0, none⟩)])
  nb : w.cell? ⟨NB, 0, none⟩ = some (.func (.func 81) #[] #[.pointer (some ⟨NX, 0, none⟩)])
  hx : NX ≠ B
  hb : NB ≠ B
  lx : NX < w.heap.size
  lb : NB < w.heap.size
theorem Env.keep {w w' : World} {B NX NB : Nat} (h : Env w B NX NB) (hk : Keep (fun k => k ≠ B) w w') : Env w' B NX NB :=
  ⟨(World.cell?_of_block (a := ⟨NX, 0, none⟩) (hk.block NX h.lx h.hx)).trans h.nx, (World.cell?_of_block (a := ⟨NB, 0, none⟩) (hk.block NB h.lb h.hb)).trans h.nb, h.hx, h.hb, Nat.lt_of_lt_of_le h.lx hk.size, Nat.lt_of_lt_of_le h.lb hk.size⟩
theorem keepB_trans {B : Nat} {a b c : World} (h : Keep (fun k => k ≠ B) a b) (k : Keep (fun k => k ≠ B) b c) : Keep (fun k => k ≠ B) a c := h.trans k fun _ _ h => h
theorem keepB_below {B : Nat} {a b : World} (h : Below a.heap.size a b) : Keep (fun k => k ≠ B) a b := Keep.of_below h

def TextR (B : Nat) (l : List UInt8) (w : World) (e : Ending) (w' : World) : Prop := e = .returned (.string (rdT l).1) ∧ RdS w' B (rdT l).2 ∧ Keep (fun k => k ≠ B) w w'
theorem beN1 (l : List UInt8) : 0 ≤ beN (l.take 1) ∧ beN (l.take 1) < 256 := by
  have h := beN_bound (l.take 1)
  refine ⟨h.1, ?_⟩
  have h2 : (l.take 1).length ≤ 1 := by rw [List.length_take]; omega
  generalize (l.take 1).length = n at h h2
  have hn : n = 0 ∨ n = 1 := by omega
  have h3 := h.2
  rcases hn with rfl | rfl
  · simp at h3; omega
  · simp at h3; omega

set_option maxHeartbeats 1000000 in
theorem text_read {w : World} {B NX NB : Nat} {l : List UInt8} (h : RdS w B l) (he : Env w B NX NB) (hl : l.length ≤ 281474976710656) : Calls Try.prog 82 #[.pointer (some ⟨NX, 0, none⟩), .pointer (some ⟨NB, 0, none⟩)] w (TextR B l w) := by
  unfold TextR rdT
  obtain ⟨q, hq⟩ : ∃ q : Nat, beN (l.take 1) = (q : Int) := ⟨(beN (l.take 1)).toNat, by have := (beN1 l).1; omega⟩
  have hq1 : q < 256 := by have := (beN1 l).2; omega
  have hnum : ∀ W, Below w.heap.size w W → Calls Try.prog 81 #[.int .i64 1, .pointer (some ⟨NX, 0, none⟩)] W (NumR B 1 l W) := fun W hW => number_any (h.below hW) ((he.keep (keepB_below hW)).nx) 1 (by omega) hl
  unfold NumR at hnum
  rw [hq] at hnum ⊢
  rw [Int.toNat_natCast]
  have hl2 : (l.drop 1).length ≤ 281474976710656 := by rw [List.length_drop]; omega
  have FN := Lib.hid hnum
  have HE := Lib.hid he
  have HWD := Lib.hid ((Below.refl w.heap.size w).drew)
  obtain ⟨c0, c1, _, _, _, _⟩ := he
  generalize l.drop 1 = D at FN hl2 ⊢
  have hnx := fun W (hR : RdS W B D) => next_any hR q (by omega) hl2
  unfold NextR at hnx
  generalize D.take q = T at hnx ⊢
  generalize D.drop q = D2 at hnx ⊢
  obtain ⟨m, hM⟩ : ∃ m, T.length = m := ⟨_, rfl⟩
  have HM := Lib.hid hM
  have FX := Lib.hid hnx
  clear hnum hq h hl hM hnx
  go_enter Try.func82, Try.ntmps82
  go_wp2_with fail
  go_region_with (first
    | (go_at_call 81; refine (FN.out _ HWD.out).mono ?_; clear FN; rintro e w1 ⟨rfl, h1, h2⟩; have HK1 := Lib.hid (keepB_trans (keepB_below HWD.out) h2); have HR1 := Lib.hid h1; obtain ⟨d0, d1, _, _, _, _⟩ := HE.out.keep HK1.out; clear h1 h2)
    | (go_at_call 80; refine (FX.out _ HR1.out).mono ?_; clear FX; rintro e w2 ⟨v, rfl, h1, h2, h3⟩; have HK2 := Lib.hid (keepB_trans HK1.out h3); have HR2 := Lib.hid h2; have hcv := conv_br h1.br; obtain ⟨A, c, hf⟩ := h1.br.form; rw [HM.out] at hf; subst hf; obtain ⟨e0, e1, _, _, _, _⟩ := HE.out.keep HK2.out; clear h1 h2 h3))
  all_goals go_wp2_with fail
  all_goals go_ret
  all_goals exact ⟨rfl, HR2.out, HK2.out⟩

/-! ### values made -/
theorem num_any (n : Int) (w : World) : Calls Try.prog 84 #[.int .i64 n] w fun e w' => e = .returned (.agg #[.int .i64 1, .int .i64 n, .string ⟨#[]⟩]) ∧ Below w.heap.size w w' := by
  go_enter Try.func84, Try.ntmps84
  go_wp2
  refine bodyPost_ret (v := .agg #[.int .i64 1, .int .i64 n, .string ⟨#[]⟩]) (by simp [results, Try.results84, go_sem]) rfl ⟨rfl, ?_⟩
  go_grown
theorem clone_any (s : ByteArray) (w : World) (hlim : s.size ≤ 281474976710656) : Calls Try.prog 90 #[.string s] w fun e w' => e = .returned (.string s) ∧ Below w.heap.size w w' := by
  go_enter Try.func90, Try.ntmps90
  go_wp2_with (go_at_call 94; refine (Try.stringslite_Clone s _ hlim).mono ?_; rintro e w1 ⟨rfl, hb⟩)
  go_ret
  exact ⟨rfl, hb⟩
structure Fx3 (w : World) (b : Nat) : Prop where
  f0 : w.frozen? ⟨b, 0, none⟩ = false
  f1 : w.frozen? ⟨b, 1, none⟩ = false
  f2 : w.frozen? ⟨b, 2, none⟩ = false
theorem Fx3.of {w : World} {b : Nat} {v0 v1 v2 : Value} {t : TypeId} (h : w.heap[b]? = some (.cells #[v0, v1, v2] t (0, 0))) : Fx3 w b :=
  ⟨by simp [World.frozen?, h], by simp [World.frozen?, h], by simp [World.frozen?, h]⟩
theorem Fx3.new (w : World) (v0 v1 v2 : Value) (t : TypeId) : Fx3 (w.alloc (.cells #[v0, v1, v2] t)) w.heap.size := Fx3.of (heap_alloc_new w _)
theorem Fx3.keep {w w' : World} {b : Nat} (h : Fx3 w b) (hb : w'.heap[b]? = w.heap[b]?) : Fx3 w' b := by
  obtain ⟨h0, h1, h2⟩ := h
  simp only [World.frozen?] at h0 h1 h2
  exact ⟨by simp only [World.frozen?, hb]; exact h0, by simp only [World.frozen?, hb]; exact h1, by simp only [World.frozen?, hb]; exact h2⟩
theorem Bx3.same {w w' : World} {b : Nat} {v0 v1 v2 : Value} (h : Bx3 w b v0 v1 v2) (hb : w'.heap[b]? = w.heap[b]?) (hs : w.heap.size ≤ w'.heap.size) : Bx3 w' b v0 v1 v2 :=
  ⟨(World.cell?_of_block (a := ⟨b, 0, none⟩) hb).trans h.c0, (World.cell?_of_block (a := ⟨b, 1, none⟩) hb).trans h.c1, (World.cell?_of_block (a := ⟨b, 2, none⟩) hb).trans h.c2, Nat.lt_of_lt_of_le h.lt hs⟩

theorem textV_any (s : ByteArray) (w : World) (hlim : s.size ≤ 281474976710656) : Calls Try.prog 85 #[.string s] w fun e w' => e = .returned (.agg #[.int .i64 2, .int .i64 0, .string s]) ∧ Below w.heap.size w w' := by
  go_enter Try.func85, Try.ntmps85
  have HN := Lib.hid (Bx3.new w (.int .i64 0) (.int .i64 0) (.string ⟨#[]⟩) 31)
  have HF := Lib.hid (Fx3.new w (.int .i64 0) (.int .i64 0) (.string ⟨#[]⟩) 31)
  have HL := Lib.hid ((Below.refl _ w).alloc (Nat.le_refl _) (.cells #[.int .i64 0, .int .i64 0, .string ⟨#[]⟩] 31))
  go_wp2_with fail
  refine (clone_any s _ hlim).mono ?_
  rintro e w1 ⟨rfl, hb⟩
  have hbl := hb.block w.heap.size (by simp)
  obtain ⟨q0, q1, q2, _⟩ := HN.out.same hbl hb.size
  obtain ⟨f0, f1, f2⟩ := HF.out.keep hbl
  have hlow2 : Below w.heap.size w w1 := HL.out.trans (hb.mono (by simp))
  obtain ⟨A, hA⟩ : ∃ A, w.heap.size = A := ⟨_, rfl⟩
  rw [hA] at q0 q1 q2 f0 f1 f2 hlow2 ⊢
  have HA := Lib.hid hA
  clear hb hA HL HN HF hbl
  go_wp2_with fail
  refine bodyPost_ret (v := .agg #[.int .i64 2, .int .i64 0, .string s]) (by simp [results, Try.results85, go_sem, q0, q1, q2, f0, f1, f2]) rfl ⟨rfl, ?_⟩
  rw [HA.out]
  go_grown

theorem rdT_small (l : List UInt8) : (rdT l).1.size ≤ 256 := by
  have h := (beN1 l)
  unfold rdT bT
  show (List.toArray _).size ≤ 256
  simp only [List.size_toArray, List.length_take]
  omega
end Go.Proofs.Ytpoefcpgcojppaa
