/- Walk of what tells a value of the bytes that are still to be read. -/
import Derived.Test.YtpoefcpgcojppaaPK
namespace Go.Proofs.Ytpoefcpgcojppaa
open Go.ChangeShapes Go.WideShapes Go.ChangeAt Go.RowKit
set_option linter.unusedVariables false

/-- the text's closure, too -/
structure Env2 (w : World) (B NX NB TX : Nat) : Prop where
  env : Env w B NX NB
  tx : w.cell? ⟨TX, 0, none⟩ = some (.func (.func 82) #[] #[.pointer (some ⟨NX, 0, none⟩), .pointer (some ⟨NB, 0, none⟩)])
  ht : TX ≠ B
  lt : TX < w.heap.size
theorem Env2.keep {w w' : World} {B NX NB TX : Nat} (h : Env2 w B NX NB TX) (hk : Keep (fun k => k ≠ B) w w') : Env2 w' B NX NB TX :=
  ⟨h.env.keep hk, (World.cell?_of_block (a := ⟨TX, 0, none⟩) (hk.block TX h.lt h.ht)).trans h.tx, h.ht, Nat.lt_of_lt_of_le h.lt hk.size⟩

def ValR (B : Nat) (l : List UInt8) (w : World) (e : Ending) (w' : World) : Prop := e = .returned (.agg #[.int .i64 (rdV l).1.1, .int .i64 (rdV l).1.2.1, .string (rdV l).1.2.2]) ∧ RdS w' B (rdV l).2 ∧ Keep (fun k => k ≠ B) w w'
theorem ret_agg3 {a b a' b' : Int} {c c' : ByteArray} (h : (a, b, c) = (a', b', c')) : Ending.returned (.agg #[.int .i64 a, .int .i64 b, .string c]) = .returned (.agg #[.int .i64 a', .int .i64 b', .string c']) := by
  injection h with h1 h2
  injection h2 with h2 h3
  subst h1 h2 h3
  rfl

set_option maxHeartbeats 2000000 in
set_option maxRecDepth 100000 in
theorem val_read {w : World} {B NX NB TX : Nat} {l : List UInt8} (h : RdS w B l) (he : Env2 w B NX NB TX) (hl : l.length ≤ 281474976710656) : Calls Try.prog 83 #[.pointer (some ⟨NB, 0, none⟩), .pointer (some ⟨TX, 0, none⟩)] w (ValR B l w) := by
  unfold ValR
  have hBlt := h.lt
  obtain ⟨q, hq⟩ : ∃ q : Int, beN (l.take 1) = q := ⟨_, rfl⟩
  have hq1 : 0 ≤ q ∧ q < 256 := by rw [← hq]; exact beN1 l
  -- the result's own block
  have HN := Lib.hid (Bx3.new w (.int .i64 0) (.int .i64 0) (.string ⟨#[]⟩) 31)
  have HF := Lib.hid (Fx3.new w (.int .i64 0) (.int .i64 0) (.string ⟨#[]⟩) 31)
  have hba : Below w.heap.size w (w.alloc (.cells #[.int .i64 0, .int .i64 0, .string ⟨#[]⟩] 31)) := (Below.refl _ w).alloc (Nat.le_refl _) _
  have HK0 := Lib.hid (keepB_below (B := B) hba)
  have HE0 := Lib.hid (he.keep HK0.out)
  have HR0 := Lib.hid (h.below hba)
  have hnum := number_any HR0.out HE0.out.env.nx 1 (by omega) hl
  unfold NumR at hnum
  rw [hq] at hnum
  have HV : Hid (rdV l = if q = 1 then ((1, beN ((l.drop 1).take 6) - 1099511627776, ⟨#[]⟩), (l.drop 1).drop 6) else if q = 2 then ((2, 0, (rdT (l.drop 1)).1), (rdT (l.drop 1)).2) else ((0, 0, ⟨#[]⟩), l.drop 1)) := by
    show _ = _
    unfold rdV
    rw [hq]
  have hl2 : (l.drop 1).length ≤ 281474976710656 := by rw [List.length_drop]; omega
  generalize l.drop 1 = D at hnum hl2 HV
  have FN := Lib.hid hnum
  obtain ⟨_, b0, _, _, _, _⟩ := HE0.out.env
  have hBne : w.heap.size ≠ B := by omega
  clear hnum hq h hl
  have hsA : w.heap.size < (w.alloc (.cells #[.int .i64 0, .int .i64 0, .string ⟨#[]⟩] 31)).heap.size := by simp
  have hQ : ∀ (w' : World), Keep (fun k => k ≠ B) (w.alloc (.cells #[.int .i64 0, .int .i64 0, .string ⟨#[]⟩] 31)) w' → Bx3 w' w.heap.size (.int .i64 0) (.int .i64 0) (.string ⟨#[]⟩) ∧ Fx3 w' w.heap.size ∧ Env2 w' B NX NB TX ∧ Keep (fun k => k ≠ B) w w' := fun w' hk => by
    have hb := hk.block w.heap.size hsA hBne
    exact ⟨HN.out.same hb hk.size, HF.out.keep hb, HE0.out.keep hk, keepB_trans HK0.out hk⟩
  have HQ := Lib.hid hQ
  clear hQ hba HN HF
  have hset : ∀ (w3 : World) (l' : List UInt8) (u0 u1 u2 : Value), RdS w3 B l' → Keep (fun k => k ≠ B) w w3 → RdS (((w3.setCell ⟨w.heap.size, 0, none⟩ u0).setCell ⟨w.heap.size, 1, none⟩ u1).setCell ⟨w.heap.size, 2, none⟩ u2) B l' ∧ Keep (fun k => k ≠ B) w (((w3.setCell ⟨w.heap.size, 0, none⟩ u0).setCell ⟨w.heap.size, 1, none⟩ u1).setCell ⟨w.heap.size, 2, none⟩ u2) := fun w3 l' u0 u1 u2 hr hk => by
    have hb : ∀ k, k ≠ w.heap.size → (((w3.setCell ⟨w.heap.size, 0, none⟩ u0).setCell ⟨w.heap.size, 1, none⟩ u1).setCell ⟨w.heap.size, 2, none⟩ u2).heap[k]? = w3.heap[k]? := fun k hk => by
      rw [Below.heap_setCell _ _ _ _ hk, Below.heap_setCell _ _ _ _ hk, Below.heap_setCell _ _ _ _ hk]
    have hK : Keep (fun k => k ≠ w.heap.size) w3 (((w3.setCell ⟨w.heap.size, 0, none⟩ u0).setCell ⟨w.heap.size, 1, none⟩ u1).setCell ⟨w.heap.size, 2, none⟩ u2) := ⟨rfl, rfl, rfl, by simp, fun k _ hk => hb k hk⟩
    exact ⟨hr.keep hK fun k hk => by omega, hk.trans hK fun k hk _ => by omega⟩
  have HSET := Lib.hid hset
  clear hset
  obtain ⟨A, hA⟩ : ∃ A, w.heap.size = A := ⟨_, rfl⟩
  by_cases h1 : q = 1
  · subst h1
    have HVV : Hid (rdV l = ((1, beN (D.take 6) - 1099511627776, ⟨#[]⟩), D.drop 6)) := by
      show _ = _
      rw [HV.out, if_pos rfl]
    go_enter Try.func83, Try.ntmps83
    go_wp2_with fail
    refine FN.out.mono ?_
    clear FN
    rintro e w1 ⟨rfl, r1, k1⟩
    obtain ⟨_, _, e1, _⟩ := HQ.out w1 k1
    have HK1 := Lib.hid k1
    have F6 := Lib.hid (number_any r1 e1.env.nx 6 (by omega) hl2)
    obtain ⟨_, d0, _, _, _, _⟩ := e1.env
    have hb6 := (beN_bound (D.take 6)).1
    have hb7 := beN_small (l := D.take 6) (by rw [List.length_take]; omega)
    unfold NumR at F6
    obtain ⟨x, hx⟩ : ∃ x, beN (D.take 6) = x := ⟨_, rfl⟩
    rw [hx] at F6 hb6 hb7 HVV
    have hwr : IntKind.i64.wrap (x - 1099511627776) = x - 1099511627776 := by rw [IntKind.wrap_i64]; omega
    clear r1 k1 e1 b0 hx
    generalize w.alloc (.cells #[.int .i64 0, .int .i64 0, .string ⟨#[]⟩] 31) = wa at *
    go_wp2_with (first
      | (go_at_call 81; refine F6.out.mono ?_; clear F6; rintro e w2 ⟨rfl, r2, k2⟩; have HK2 := Lib.hid (And.intro r2 (keepB_trans HK1.out k2)); clear r2 k2)
      | (go_at_call 84; refine (num_any _ _).mono ?_; rintro e w3 ⟨rfl, k3⟩; have HR3 := Lib.hid (HK2.out.1.below k3); obtain ⟨p0, p1, p2, p3⟩ := HQ.out w3 (keepB_trans HK2.out.2 (keepB_below k3)); rw [hA] at p0 p1; obtain ⟨q0, q1, q2, _⟩ := p0; obtain ⟨f0, f1, f2⟩ := p1; have HP3 := Lib.hid p3; clear p2 p3 k3))
    have HS := HSET.out w3 _ (.int .i64 1) (.int .i64 (x - 1099511627776)) (.string ⟨#[]⟩) HR3.out HP3.out
    rw [hA] at HS
    exact bodyPost_ret (v := .agg #[.int .i64 1, .int .i64 (x - 1099511627776), .string ⟨#[]⟩]) (by simp [results, Try.results83, go_sem, q0, q1, q2, f0, f1, f2]) rfl ⟨ret_agg3 (by rw [HVV.out]), by rw [HVV.out]; exact HS.1, HS.2⟩
  · by_cases h2 : q = 2
    · subst h2
      have HVV : Hid (rdV l = ((2, 0, (rdT D).1), (rdT D).2)) := by
        show _ = _
        rw [HV.out, if_neg (by decide), if_pos rfl]
      clear h1
      go_enter Try.func83, Try.ntmps83
      go_wp2_with fail
      refine FN.out.mono ?_
      clear FN
      rintro e w1 ⟨rfl, r1, k1⟩
      obtain ⟨_, _, e1, _⟩ := HQ.out w1 k1
      have HK1 := Lib.hid k1
      have FT := Lib.hid (text_read r1 e1.env hl2)
      have d0 := e1.tx
      have hts := rdT_small D
      unfold TextR at FT
      generalize (rdT D).1 = x at FT HVV hts
      generalize (rdT D).2 = D2 at FT HVV
      clear r1 k1 e1 b0
      generalize w.alloc (.cells #[.int .i64 0, .int .i64 0, .string ⟨#[]⟩] 31) = wa at *
      go_wp2_with (first
        | (go_at_call 82; refine FT.out.mono ?_; clear FT; rintro e w2 ⟨rfl, r2, k2⟩; have HK2 := Lib.hid (And.intro r2 (keepB_trans HK1.out k2)); clear r2 k2)
        | (go_at_call 85; refine (textV_any _ _ (by omega)).mono ?_; rintro e w3 ⟨rfl, k3⟩; have HR3 := Lib.hid (HK2.out.1.below k3); obtain ⟨p0, p1, p2, p3⟩ := HQ.out w3 (keepB_trans HK2.out.2 (keepB_below k3)); rw [hA] at p0 p1; obtain ⟨q0, q1, q2, _⟩ := p0; obtain ⟨f0, f1, f2⟩ := p1; have HP3 := Lib.hid p3; clear p2 p3 k3))
      have HS := HSET.out w3 _ (.int .i64 2) (.int .i64 0) (.string x) HR3.out HP3.out
      rw [hA] at HS
      exact bodyPost_ret (v := .agg #[.int .i64 2, .int .i64 0, .string x]) (by simp [results, Try.results83, go_sem, q0, q1, q2, f0, f1, f2]) rfl ⟨ret_agg3 (by rw [HVV.out]), by rw [HVV.out]; exact HS.1, HS.2⟩
    · have h1' : (q == 1) = false := by simpa using h1
      have h2' : (q == 2) = false := by simpa using h2
      have HVV : Hid (rdV l = ((0, 0, ⟨#[]⟩), D)) := by
        show _ = _
        rw [HV.out, if_neg h1, if_neg h2]
      clear h1 h2
      go_enter Try.func83, Try.ntmps83
      go_wp2_with fail
      refine FN.out.mono ?_
      clear FN
      rintro e w3 ⟨rfl, r1, k1⟩
      have HR3 := Lib.hid r1
      obtain ⟨p0, p1, _, p3⟩ := HQ.out w3 k1
      rw [hA] at p0 p1
      obtain ⟨q0, q1, q2, _⟩ := p0
      obtain ⟨f0, f1, f2⟩ := p1
      have HP3 := Lib.hid p3
      clear r1 k1 b0 p3
      generalize w.alloc (.cells #[.int .i64 0, .int .i64 0, .string ⟨#[]⟩] 31) = wa at *
      go_wp2_with fail
      have HS := HSET.out w3 _ (.int .i64 0) (.int .i64 0) (.string ⟨#[]⟩) HR3.out HP3.out
      rw [hA] at HS
      exact bodyPost_ret (v := .agg #[.int .i64 0, .int .i64 0, .string ⟨#[]⟩]) (by simp [results, Try.results83, go_sem, q0, q1, q2, f0, f1, f2]) rfl ⟨ret_agg3 (by rw [HVV.out]), by rw [HVV.out]; exact HS.1, HS.2⟩
end Go.Proofs.Ytpoefcpgcojppaa
