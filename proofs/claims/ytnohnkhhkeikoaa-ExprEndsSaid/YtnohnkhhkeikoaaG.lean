/- Walk: rows put behind others. -/
import Derived.Test.YtnohnkhhkeikoaaD
import Derived.Test.YtnohnkhhkeikoaaF
namespace Go.Proofs.Ytnohnkhhkeikoaa
open Go.ChangeShapes Go.WideShapes Go.ChangeAt Go.RowKit
set_option linter.unusedVariables false

theorem info_parts {P : Program} {t : TypeId} {z : Option Value} {s b : Nat} (h : (P.info? t).map (fun i => (i.zero, i.size, i.bytes)) = some (z, s, b)) : ∃ i, P.info? t = some i ∧ i.zero = z ∧ i.size = s ∧ i.bytes = b := by
  cases hi : P.info? t with
  | none => rw [hi] at h; cases h
  | some i => rw [hi] at h; simp at h; exact ⟨i, rfl, h.1, h.2.1, h.2.2⟩
theorem parts68 : (Try.prog.info? 68).map (fun i => (i.zero, i.size, i.bytes)) = some (some (.agg #[.slice none 0 0, .slice none 0 0]), 2, 48) := by kernel_rfl

theorem row_form {w : World} {base e size n : Nat} {v : Value} {xs : List Value} (h : w.ownsRow base e size v n xs) : ∃ A c, v = .slice A n c := by
  rcases h.2 with ⟨rfl, rfl⟩ | ⟨g, cap, cur, rfl, _⟩
  · exact ⟨none, 0, rfl⟩
  · exact ⟨_, cap, rfl⟩

def flatR (st : List Rw) : List Value := st.flatMap fun r => [r.va, r.vb]
theorem flatR_len (l : List Rw) : (flatR l).length = l.length * 2 := by simp [flatR, List.length_flatMap, Function.comp_def, List.map_const']
theorem flatR_app (l m : List Rw) : flatR (l ++ m) = flatR l ++ flatR m := by simp [flatR]
def Rw.formed (r : Rw) : Prop := ∃ A c B d, r.va = .slice A r.a.length c ∧ r.vb = .slice B r.b.length d
theorem Rw.ok.formed {B : Nat} {w : World} {r : Rw} (h : r.ok B w) : r.formed := by
  obtain ⟨A, c, h1, _⟩ := h.1.form
  obtain ⟨A', c', h2, _⟩ := h.2.form
  exact ⟨A, c, A', c', h1, h2⟩
instance (r : Rw) : Decidable r.full := inferInstanceAs (Decidable (0 < r.a.length ∧ 0 < r.b.length))
def fulls (l : List Rw) : List Rw := l.filter fun r => decide r.full
theorem fulls_snoc (l : List Rw) (r : Rw) : fulls (l ++ [r]) = fulls l ++ (if r.full then [r] else []) := by
  unfold fulls
  rw [List.filter_append]
  by_cases h : r.full <;> simp [h]
theorem Rel.own_append {base : Nat} {w w1 w' : World} {v : Value} {n : Nat} {xs : List Value} (h : Rel base w w1) (hrow : w1.ownsRow base 68 2 v n xs) (hg : w1.grownBy w' v.ownBlock) : Rel base w w' := by
  refine h.trans (Rel.grown hg fun r e => ?_)
  rcases hrow.2 with ⟨rfl, _⟩ | ⟨g, cap, cur, rfl, hb, hh, _⟩
  · cases e
  · obtain rfl : g = r := by simpa [Value.ownBlock] using e
    exact ⟨hb, _, hh, .inr ⟨cur, (0, 0), rfl⟩⟩

def Fr (v : Value) (w w' : World) : Prop := ∀ k, k < w.heap.size → some k ≠ v.ownBlock → w'.heap[k]? = w.heap[k]?
def WithR (base : Nat) (v : Value) (st : List Rw) (w : World) (e : Ending) (w' : World) : Prop := ∃ v', e = .returned v' ∧ w'.ownsRow base 68 2 v' st.length (flatR st) ∧ Rel base w w' ∧ Fr v w w'

theorem lit_cells (w : World) (n : Nat) (hn : w.heap.size = n) (cs : List Value) (t : TypeId) : ∀ j u, cs[j]? = some u → (w.alloc (.cells cs.toArray t)).cell? ((⟨n, 0, none⟩ : Addr).add j) = some u := by
  intro j u hj
  subst hn
  have h := World.alloc_heap_new w (.cells cs.toArray t)
  have e : ((⟨w.heap.size, 0, none⟩ : Addr).add j) = ⟨w.heap.size, j, none⟩ := by unfold Addr.add; split <;> simp_all
  rw [e, cell_of_row _ _ _ _ _ _ h]
  simpa using hj

set_option maxRecDepth 100000 in
set_option maxHeartbeats 4000000 in
theorem with_any {w : World} {base : Nat} {v : Value} {st : List Rw} {r1 r2 : Rw} (hown : w.ownsRow base 68 2 v st.length (flatR st)) (hbase : base ≤ w.heap.size) {g : Nat} (hm : w.heap[g]? = some (.cells #[r1.va, r1.vb, r2.va, r2.vb] 68 (0, 0)))
    (hne : v.ownBlock ≠ some g) (hf : ∀ r ∈ [r1, r2], r.formed) (hn : st.length ≤ 100000) :
    Calls Try.prog 55 #[v, .slice (some ⟨g, 0, none⟩) 2 2] w (WithR base v (st ++ fulls [r1, r2]) w) := by
  unfold WithR
  obtain ⟨i0, hi, hy0, hy1, hy2⟩ := info_parts parts68
  have hgl : g < w.heap.size := (Array.getElem?_eq_some_iff.1 hm).1
  obtain ⟨A, q, rfl⟩ := row_form hown
  have HF := Lib.hid hf
  have H0 := Lib.hid (And.intro hown (And.intro hm hne))
  clear hown hm hne hf
  go_enter Try.func55, Try.ntmps55
  go_wp2_with fail
  go_loopw [0, 9] (fun v' i wr => ∃ (k : Nat) (A' : Option Addr) (n' q' : Nat), k ≤ 2 ∧ i = .int .i64 k ∧ v' = .slice A' n' q' ∧ (n' = (st ++ fulls ([r1, r2].take k)).length ∧ wr.ownsRow base 68 2 (.slice A' n' q') n' (flatR (st ++ fulls ([r1, r2].take k)))) ∧ wr.heap[g]? = some (.cells #[r1.va, r1.vb, r2.va, r2.vb] 68 (0, 0)) ∧ (Value.slice A' n' q').ownBlock ≠ some g ∧ Rel base w wr ∧ Fr (.slice A st.length q) w wr ∧ ((Value.slice A' n' q').ownBlock = (Value.slice A st.length q).ownBlock ∨ ∃ b, w.heap.size ≤ b ∧ (Value.slice A' n' q').ownBlock = some b)) (fun _ i _ => 2 - (intOf i).toNat)
  case atStart => exact ⟨0, A, _, q, by omega, rfl, rfl, ⟨by simp [fulls], by simpa [fulls] using H0.out.1⟩, H0.out.2.1, H0.out.2.2, Rel.refl _ _, fun _ _ _ => rfl, .inl rfl⟩
  case round =>
    obtain ⟨k, A', n', q', hk, rfl, rfl, ⟨hnl, hrow⟩, hg2, hnb, hrel2, hfr, hlc⟩ := hrel
    have HFR := Lib.hid (And.intro hfr hlc)
    clear hfr hlc
    by_cases hlt : k < 2
    · obtain ⟨r, hr⟩ : ∃ r, [r1, r2][k]? = some r := by
        have : k = 0 ∨ k = 1 := by omega
        rcases this with rfl | rfl
        · exact ⟨r1, rfl⟩
        · exact ⟨r2, rfl⟩
      obtain ⟨fa, fc, fb, fd, e1, e2⟩ := HF.out r (List.mem_of_getElem? hr)
      have c0 : wr.cell? ⟨g, k * 2, none⟩ = some r.va := by
        rw [cell_of_row _ _ _ _ 68 (0, 0) hg2]
        have : k = 0 ∨ k = 1 := by omega
        rcases this with rfl | rfl
        · injection hr with hr; rw [← hr]; rfl
        · injection hr with hr; rw [← hr]; rfl
      have c1 : wr.cell? ⟨g, k * 2 + 1, none⟩ = some r.vb := by
        rw [cell_of_row _ _ _ _ 68 (0, 0) hg2]
        have : k = 0 ∨ k = 1 := by omega
        rcases this with rfl | rfl
        · injection hr with hr; rw [← hr]; rfl
        · injection hr with hr; rw [← hr]; rfl
      have hst : fulls ([r1, r2].take (k + 1)) = fulls ([r1, r2].take k) ++ (if r.full then [r] else []) := by
        rw [List.take_add_one, hr]
        exact fulls_snoc _ _
      rw [e1] at c0
      rw [e2] at c1
      have HI := Lib.hid (And.intro hst (And.intro e1 e2))
      have HR := Lib.hid (And.intro hrow (And.intro hnb hrel2))
      have HG := Lib.hid hg2
      have HN := Lib.hid hnl
      have hn' : n' ≤ 100002 := by
        have h1 : (fulls ([r1, r2].take k)).length ≤ 2 := Nat.le_trans (List.length_filter_le _ _) (by simp; omega)
        rw [hnl, List.length_append]; omega
      clear hst e1 e2 hrow hnb hrel2 hg2 hr hnl
      by_cases hfull : r.full
      · obtain ⟨z1, z2⟩ := hfull
        have HFU := Lib.hid (show r.full from ⟨z1, z2⟩)
        have z1' : (0 : Int) < (r.a.length : Int) := by omega
        have z2' : (0 : Int) < (r.b.length : Int) := by omega
        generalize r.a.length = la at *
        generalize r.b.length = lb at *
        have hz : Hid (base ≤ wr.heap.size) := Lib.hid (Nat.le_trans hbase HR.out.2.2.size)
        go_wp2_with (at_builtin; go_loud (refine wpList_append_own_at _ rfl _ _ 69 rfl base 68 i0 (.agg #[.slice none 0 0, .slice none 0 0]) 2 48 Try.underlying69 hi hy0 hy1 hy2 rfl (by decide) (.slice A' n' q') n' _ rfl ((HR.out.1.alloc _).alloc _) ⟨wr.heap.size + 1, 0, none⟩ 1 1 [.slice fa la fc, .slice fb lb fd] rfl rfl (lit_cells (wr.alloc _) _ (by simp) _ 68) (by simp [Value.oneCell']) (by unfold maxLen; omega) (by omega) (by have := hz.out; simp; omega) ?_; intro v3 w3 hown3 hgrow3 hnil3 hloc3))
        have hb2 : Below wr.heap.size wr ((wr.alloc (.cells #[.slice fa la fc, .slice fb lb fd] 68)).alloc (.cells #[.slice fa la fc, .slice fb lb fd] 68)) := ((Below.refl _ wr).alloc (Nat.le_refl _) _).alloc (by simp) _
        have hrel3 : Rel base w w3 := Rel.own_append (HR.out.2.2.trans (Rel.of_below hb2)) ((HR.out.1.alloc _).alloc _) hgrow3
        have hgw : g < wr.heap.size := (Array.getElem?_eq_some_iff.1 HG.out).1
        have hg3 : w3.heap[g]? = some (.cells #[r1.va, r1.vb, r2.va, r2.vb] 68 (0, 0)) := by
          rw [hgrow3.block g (Nat.lt_of_lt_of_le hgw hb2.size) (fun e => HR.out.2.1 e.symm), hb2.block g hgw]
          exact HG.out
        have hne3 : v3.ownBlock ≠ some g := by
          rcases hloc3 with h | h
          · rw [h]; exact HR.out.2.1
          · rw [h]; simp; omega
        have hlc3 : v3.ownBlock = (Value.slice A st.length q).ownBlock ∨ ∃ b, w.heap.size ≤ b ∧ v3.ownBlock = some b := by
          rcases hloc3 with h | h
          · rw [h]; exact HFR.out.2
          · exact .inr ⟨_, by have := HR.out.2.2.size; simp; omega, h⟩
        have hfr3 : Fr (.slice A st.length q) w w3 := fun k hk hne => by
          have hkw : k < wr.heap.size := Nat.lt_of_lt_of_le hk HR.out.2.2.size
          rw [hgrow3.block k (Nat.lt_of_lt_of_le hkw hb2.size) (fun e => ?_), hb2.block k hkw]
          · exact HFR.out.1 k hk hne
          · rcases HFR.out.2 with h | ⟨b, hb, h⟩
            · rw [h] at e; exact hne e
            · rw [h] at e; injection e with e; omega
        obtain ⟨h1, h2, h3⟩ := HI.out
        rw [if_pos HFU.out] at h1
        obtain ⟨A3, q3, rfl⟩ := row_form hown3
        go_roundw
        case rel =>
          refine ⟨k + 1, A3, n' + 1, q3, by omega, by go_num, rfl, ⟨?_, ?_⟩, hg3, hne3, hrel3, hfr3, hlc3⟩
          · rw [h1, HN.out]; simp; omega
          · rw [h1, ← List.append_assoc, flatR_app]
            have : flatR [r] = [.slice fa la fc, .slice fb lb fd] := by simp [flatR, h2, h3]
            rw [this]
            exact hown3
        case measure => simp [intOf]; omega
      · have hz : ¬ 0 < r.a.length ∨ 0 < r.a.length ∧ ¬ 0 < r.b.length := by
          unfold Rw.full at hfull
          by_cases h : 0 < r.a.length
          · exact .inr ⟨h, fun h' => hfull ⟨h, h'⟩⟩
          · exact .inl h
        obtain ⟨h1, h2, h3⟩ := HI.out
        rw [if_neg hfull, List.append_nil] at h1
        have H1 := Lib.hid h1
        clear h1 hfull
        rcases hz with hz | ⟨hz, hz2⟩
        · have hz0 : r.a.length = 0 := by omega
          rw [hz0] at c0
          go_wp2_with fail
          go_roundw
          case rel => exact ⟨k + 1, A', n', q', by omega, by go_num, rfl, ⟨by rw [H1.out]; exact HN.out, by rw [H1.out]; exact HR.out.1.alloc _⟩, (Below.heap_alloc _ _ _ (Array.getElem?_eq_some_iff.1 HG.out).1).trans HG.out, HR.out.2.1, HR.out.2.2.trans (Rel.of_below ((Below.refl _ wr).alloc (Nat.le_refl _) _)), fun j hj hn => (Below.heap_alloc _ _ _ (Nat.lt_of_lt_of_le hj HR.out.2.2.size)).trans (HFR.out.1 j hj hn), HFR.out.2⟩
          case measure => simp [intOf]; omega
        · have hz0 : r.b.length = 0 := by omega
          have hz' : (0 : Int) < (r.a.length : Int) := by omega
          rw [hz0] at c1
          go_wp2_with fail
          go_roundw
          case rel => exact ⟨k + 1, A', n', q', by omega, by go_num, rfl, ⟨by rw [H1.out]; exact HN.out, by rw [H1.out]; exact HR.out.1.alloc _⟩, (Below.heap_alloc _ _ _ (Array.getElem?_eq_some_iff.1 HG.out).1).trans HG.out, HR.out.2.1, HR.out.2.2.trans (Rel.of_below ((Below.refl _ wr).alloc (Nat.le_refl _) _)), fun j hj hn => (Below.heap_alloc _ _ _ (Nat.lt_of_lt_of_le hj HR.out.2.2.size)).trans (HFR.out.1 j hj hn), HFR.out.2⟩
          case measure => simp [intOf]; omega
    · obtain rfl : k = 2 := by omega
      have HR := Lib.hid (show n' = (st ++ fulls [r1, r2]).length ∧ wr.ownsRow base 68 2 (.slice A' n' q') n' (flatR (st ++ fulls [r1, r2])) ∧ Rel base w wr from ⟨hnl, hrow, hrel2⟩)
      clear hnl hrow hrel2 hg2 hnb
      go_wp2_with fail
      go_ret
      obtain ⟨e, h1, h2⟩ := HR.out
      exact ⟨_, rfl, by rw [← e]; exact h1, h2, HFR.out.1⟩
end Go.Proofs.Ytnohnkhhkeikoaa
