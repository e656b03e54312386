/- Walk of the reference's UpTo. -/
import Derived.Test.YtabbgananngjlaaZ
import Derived.Test.YtabbgananngjlaaM
namespace Go.Proofs.Ytabbgananngjlaa
open Go.ChangeShapes Go.WideShapes Go.ChangeAt Go.RowKit
set_option linter.unusedVariables false

theorem pr_newT (W : World) (t : Nat) (l : List It) (cap n : Nat) (hn : n = l.length) : PR (W.alloc (.cells (flat l).toArray t)) (.slice (some ⟨W.heap.size, 0, none⟩) n cap) l := by
  subst hn
  refine ⟨_, cap, rfl, fun _ => ⟨_, rfl, by simp, fun k hk => ?_⟩⟩
  have h := heap_alloc_new W (.cells (flat l).toArray t)
  obtain ⟨f1, f2⟩ := flat_at l k hk
  constructor
  · rw [Addr.add_lit, cell_of_row _ _ _ _ t (0, 0) h]
    simpa using f1
  · rw [Addr.add_lit, cell_of_row _ _ _ _ t (0, 0) h]
    simpa using f2

/-- what is so between two rounds -/
structure RU (w : World) (rb : Nat) (A0 : Option Addr) (n : Nat) (out : List It) (v : Value) (A : Option Addr) (c : Nat) (S : List It) (W : World) : Prop where
  row : W.ownsRow w.heap.size 43 2 v out.length (flat out)
  hr : RB W rb A c S
  keep : Keep (fun k => k ≠ rb) w W
  lt : ∀ ad, A = some ad → ad.block < w.heap.size
  same : ∀ ad, A = some ad → ∃ ad0, A0 = some ad0 ∧ ad.block = ad0.block
  rlt : rb < w.heap.size
  sl : out.length + S.length = n

theorem RU.app {w : World} {rb n : Nat} {A0 : Option Addr} {out : List It} {v v' : Value} {A : Option Addr} {c : Nat} {x : It} {S : List It} {W w2 : World} {o : Obj} (h : RU w rb A0 n out v A c (x :: S) W)
    (hown : w2.ownsRow w.heap.size 43 2 v' (out.length + 1) (flat out ++ flat [x])) (hg : (W.alloc o).grownBy w2 v.ownBlock) {ad2 : Addr} {ad : Addr} (hA : A = some ad) {c2 : Nat} (hc : c2 = c - 1) (h2 : ad2.block = ad.block) (h3 : 0 < S.length → ad2 = ⟨ad.block, ad.off + 2, none⟩) :
    w2.cell? ⟨rb, 0, none⟩ = some (.slice A (S.length + 1) c) ∧ w2.frozen? ⟨rb, 0, none⟩ = false ∧ RU w rb A0 n (out ++ [x]) v' (some ad2) c2 S (w2.setCell ⟨rb, 0, none⟩ (.slice (some ad2) S.length c2)) := by
  subst hc hA
  have hlo : ∀ g, v.ownBlock = some g → w.heap.size ≤ g := fun g e => (h.row.lt g e).1
  have hk2 : Keep (fun k => k < w.heap.size) W w2 := (Keep.of_below ((Below.refl _ W).alloc (Nat.le_refl _) o)).trans (Keep.of_grown hg fun k _ hp e => by have := hlo k e.symm; omega) fun _ _ h => h
  have hrb := h.hr.keep hk2 h.rlt (fun ad' e => h.lt ad' e)
  have hcap := hrb.cap
  have hbig := hrb.big
  simp only [List.length_cons] at hcap
  have hpr : PR w2 (.slice (some ad2) S.length (c - 1)) S := by
    have := hrb.row.drop (k := 1) (ad2 := ad2) (c2 := c - 1) (n := S.length) (by simp) (by simp) fun h1 => by rw [add_at _ _ (by decide)]; exact h3 (by simpa using h1)
    simpa using this
  have hp := rb_put hrb hpr rfl (by omega) (by omega) (fun e => by cases e) (fun ad' e => by cases e; rw [h2]; exact hrb.lt ad rfl)
  refine ⟨hrb.cells.1, hrb.cells.2, ?_, hp, ?_, fun ad' e => by cases e; rw [h2]; exact h.lt ad rfl, fun ad' e => by cases e; rw [h2]; exact h.same ad rfl, h.rlt, ?_⟩
  · rw [List.length_append, flat_app]
    exact ownsRow_setCell_below hown (a := ⟨rb, 0, none⟩) h.rlt _
  · exact Keep.setCell (h.keep.trans hk2 fun k hk _ => hk) _ _ fun k _ hk => hk
  · have := h.sl; simp at this ⊢; omega

def RUpR (w : World) (rb : Nat) (A0 : Option Addr) (res rest : List It) (e : Ending) (w' : World) : Prop :=
  ∃ v A c, e = .returned v ∧ w'.ownsRow w.heap.size 43 2 v res.length (flat res) ∧ RB w' rb A c rest ∧ Keep (fun k => k ≠ rb) w w' ∧ ∀ ad, A = some ad → ∃ ad0, A0 = some ad0 ∧ ad.block = ad0.block

set_option maxRecDepth 100000 in
set_option maxHeartbeats 1000000 in
theorem rUp_any {w : World} {rb c : Nat} {A : Option Addr} {S : List It} (h : RB w rb A c S) (hl : S.length ≤ 1000000) (key many : Int) (hm : many ≤ 1000000) :
    Calls Try.prog 20 #[.pointer (some ⟨rb, 0, none⟩), .int .i64 key, .int .i64 many] w (RUpR w rb A (tk key many.toNat S).1 (tk key many.toNat S).2) := by
  obtain ⟨i0, hi, hz0, hz1, hz2⟩ := info_parts info43
  have H : RU w rb A S.length [] (.slice none 0 0) A c S w := ⟨World.ownsRow_nil _ _ _ _, h, Keep.refl _ _, fun ad e => (h.lt ad e).1, fun ad e => ⟨ad, e, rfl⟩, h.ltb, by simp⟩
  have HH := Lib.hid H
  obtain ⟨n, hn⟩ : ∃ n, S.length = n := ⟨_, rfl⟩
  rw [hn] at HH hl
  obtain ⟨res, hres⟩ : ∃ res, (tk key many.toNat S).1 = res := ⟨_, rfl⟩
  obtain ⟨rest, hrest⟩ : ∃ rest, (tk key many.toNat S).2 = rest := ⟨_, rfl⟩
  rw [hres, hrest]
  have HRS := Lib.hid hres
  have HRT := Lib.hid hrest
  clear h H hn hres hrest
  go_enter Try.func20, Try.ntmps20
  go_wp2_with fail
  go_loopw [7] (fun v wr => ∃ m out A' c S', RU w rb A n out v A' c S' wr ∧ out.length + m = many.toNat ∧ out ++ (tk key m S').1 = res ∧ (tk key m S').2 = rest) (fun v wr => match v with | .slice _ k _ => many.toNat - k | _ => 0)
  case atStart => exact ⟨many.toNat, [], A, c, S, HH.out, by simp, by simpa using HRS.out, HRT.out⟩
  case round =>
    obtain ⟨m, out, A', c', S', hru, hom, hr1, hr2⟩ := hrel
    have HRU := Lib.hid hru
    have HR1 := Lib.hid hr1
    have HR2 := Lib.hid hr2
    obtain ⟨c0, f0⟩ := hru.hr.cells
    obtain ⟨Ao, co, hv, _⟩ := row_form hru.row
    subst hv
    have hsl := hru.sl
    clear hru hr1 hr2
    by_cases h0 : m = 0
    · subst h0
      have hnl : ¬ (out.length : Int) < many := by omega
      go_wp2_with fail
      go_ret
      have r1 := HR1.out
      have r2 := HR2.out
      simp only [tk, List.append_nil] at r1 r2
      rw [← r1, ← r2]
      exact ⟨_, A', c', rfl, HRU.out.row, HRU.out.hr, HRU.out.keep, HRU.out.same⟩
    · obtain ⟨m, rfl⟩ : ∃ q, m = q + 1 := ⟨m - 1, by omega⟩
      have hlt : (out.length : Int) < many := by omega
      clear h0
      cases S' with
      | nil =>
        simp only [List.length_nil] at c0
        go_wp2_with fail
        go_ret
        have r1 := HR1.out
        have r2 := HR2.out
        simp only [tk, List.append_nil] at r1 r2
        rw [← r1, ← r2]
        exact ⟨_, A', c', rfl, HRU.out.row, HRU.out.hr, HRU.out.keep, HRU.out.same⟩
      | cons x S' =>
        simp only [List.length_cons] at c0 hsl
        obtain ⟨ad, hA, hx9, hx8, x1, x2⟩ := PR.at2 HRU.out.hr.row (k := 0) (by simp)
        subst hA
        simp only [Nat.zero_mul] at x1 x2
        have e0 : ad.add 0 = ad := by simp [Addr.add]
        have e1 : g (x :: S') 0 = x := rfl
        rw [e0, e1] at x1 x2
        clear hx9 e0 e1
        have hcap : ((S'.length + 1 : Nat) : Int) ≤ (c' : Int) := by have := HRU.out.hr.cap; simp at this; omega
        have hpos : (0 : Int) < ((S'.length + 1 : Nat) : Int) := by omega
        by_cases hk : x.1 ≤ key
        · have r1 := HR1.out
          have r2 := HR2.out
          simp only [tk, hk, if_true] at r1 r2
          have HQ1 := Lib.hid r1
          have HQ2 := Lib.hid r2
          clear r1 r2
          have hrow := HRU.out.row
          have hlow := HRU.out.keep.size
          by_cases hc1 : c' = 1
          · have hs0 : S'.length = 0 := by omega
            have hpn : PR (wr.alloc (.cells #[.int .i64 x.1, .int .i64 x.2] 43)) (.slice (some ⟨wr.heap.size, 0, none⟩) 1 1) [x] := pr_newT wr 43 [x] 1 1 rfl
            have hro := hrow.alloc (.cells #[.int .i64 x.1, .int .i64 x.2] 43)
            go_wp2_with (at_builtin; refine wpList_append_pr rfl _ _ rfl (base := w.heap.size) Try.underlying30 hi hz0 hz1 hz2 (v := .slice Ao out.length co) rfl hro (v2 := .slice (some ⟨wr.heap.size, 0, none⟩) 1 1) rfl hpn (by simp; omega) (by simp; omega) ?_; intro v' w2 hown' hgrow _; have hcf := HRU.out.app (v' := v') hown' hgrow (ad2 := ad) rfl (c2 := 0) (by rw [hc1]) rfl (fun h => absurd h (by omega)); obtain ⟨hc2, hf2, hru2⟩ := hcf; have HRU2 := Lib.hid hru2; clear hru2 hown' hgrow)
            have hf := row_form HRU2.out.row
            obtain ⟨A1, co1, hv1, _⟩ := hf
            subst hv1
            have hq2 := HRU2.out
            rw [hs0] at hq2
            refine ⟨⟨m, out ++ [x], _, _, S', hq2, by simp; omega, by have := HQ1.out; simpa using this, HQ2.out⟩, ?_⟩
            simp only [List.length_append, List.length_singleton]
            omega
          · have hc3 : ¬ (1 = c') := fun e => hc1 e.symm
            have hpn : PR (wr.alloc (.cells #[.int .i64 x.1, .int .i64 x.2] 43)) (.slice (some ⟨wr.heap.size, 0, none⟩) 1 1) [x] := pr_newT wr 43 [x] 1 1 rfl
            have hro := hrow.alloc (.cells #[.int .i64 x.1, .int .i64 x.2] 43)
            go_wp2_with (at_builtin; refine wpList_append_pr rfl _ _ rfl (base := w.heap.size) Try.underlying30 hi hz0 hz1 hz2 (v := .slice Ao out.length co) rfl hro (v2 := .slice (some ⟨wr.heap.size, 0, none⟩) 1 1) rfl hpn (by simp; omega) (by simp; omega) ?_; intro v' w2 hown' hgrow _; have hcf := HRU.out.app (v' := v') hown' hgrow (ad2 := ⟨ad.block, ad.off + 2, none⟩) rfl (c2 := c' - 1) rfl rfl (fun _ => rfl); obtain ⟨hc2, hf2, hru2⟩ := hcf; have HRU2 := Lib.hid hru2; clear hru2 hown' hgrow)
            have hf := row_form HRU2.out.row
            obtain ⟨A1, co1, hv1, _⟩ := hf
            subst hv1
            have hq2 := HRU2.out
            refine ⟨⟨m, out ++ [x], _, _, S', hq2, by simp; omega, by have := HQ1.out; simpa using this, HQ2.out⟩, ?_⟩
            simp only [List.length_append, List.length_singleton]
            omega
        · have hk' : decide (x.1 ≤ key) = false := decide_eq_false hk
          go_wp2_with fail
          go_ret
          have r1 := HR1.out
          have r2 := HR2.out
          simp only [tk, if_neg (show ¬ x.1 ≤ key by omega), List.append_nil] at r1 r2
          rw [← r1, ← r2]
          exact ⟨.slice Ao out.length co, _, c', rfl, HRU.out.row, HRU.out.hr, HRU.out.keep, HRU.out.same⟩
end Go.Proofs.Ytabbgananngjlaa
