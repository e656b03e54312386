/- Walks of the law's own small functions: size, great, label, of. -/
import Derived.Test.YtnohnkhhkeikoaaA
import Derived.RangeFuncNested
import Derived.RangeFuncLeaves
namespace Go.Proofs.Ytnohnkhhkeikoaa
open Go.ChangeShapes Go.WideShapes Go.ChangeAt Go.RowKit
set_option linter.unusedVariables false

theorem box_cells {w W : World} {a b c : Value} (hb : Below (w.heap.size + 1) (w.alloc (.cells #[a, b, c] 25)) W) :
    W.cell? ⟨w.heap.size, 0, none⟩ = some a ∧ W.cell? ⟨w.heap.size, 1, none⟩ = some b ∧ W.cell? ⟨w.heap.size, 2, none⟩ = some c := by
  have h : W.heap[w.heap.size]? = some (.cells #[a, b, c] 25 (0, 0)) := (hb.block _ (by omega)).trans (World.alloc_heap_new w _)
  refine ⟨?_, ?_, ?_⟩ <;> simp [World.cell?, h]

theorem capS_step {f : X → Nat} {ks : List X} {k n : Nat} (hk : k < ks.length) (hn : n ≤ 300) : capS f (ks.drop k) n = capS f (ks.drop (k + 1)) (n + f ks[k]) := by
  rw [List.drop_eq_getElem_cons hk]
  conv => lhs; unfold capS
  rw [if_pos hn]
theorem capS_stop {f : X → Nat} (xs : List X) {n : Nat} (hn : ¬ n ≤ 300) : capS f xs n = n := by
  cases xs with
  | nil => rfl
  | cons x xs => unfold capS; rw [if_neg hn]

theorem szD_pos : ∀ (d : Nat) (x : X), 1 ≤ szD d x
  | 0, x => by simp [szD]
  | d + 1, x => by unfold szD; exact capS_ge _ _

set_option maxHeartbeats 2000000 in
theorem size_any : ∀ (d : Nat) (x : X) (B : Nat) (w : World) (v : Value) (hx : XV B w v x) (hB : B ≤ w.heap.size) (hd : d ≤ 61),
    Calls Try.prog 31 #[v, .int .i64 ((61 - d : Nat) : Int)] w fun e w' => e = .returned (.int .i64 (szD d x)) ∧ Gr w w' := by
  intro d
  induction d with
  | zero =>
    intro x B w v hx hB hd
    obtain ⟨kv, rfl, h⟩ := hx
    go_enter Try.func31, Try.ntmps31
    go_wp2_with fail
    go_ret
    exact ⟨rfl, (Gr.refl _).alloc _⟩
  | succ d ih =>
    intro x B w v hx hB hd
    obtain ⟨kv, rfl, h⟩ := hx
    obtain ⟨A, c, rfl⟩ := h.form
    have HX := Lib.hid h
    have HL := Lib.hid h.len
    clear h
    have hdeep : ¬ (60 : Int) < ((61 - (d + 1) : Nat) : Int) := by omega
    have hdp : ((61 - (d + 1) : Nat) : Int) + 1 = ((61 - d : Nat) : Int) := by omega
    generalize ((61 - (d + 1) : Nat) : Int) = dp at *
    obtain ⟨n, hN⟩ : ∃ n, x.kids.length = n := ⟨_, rfl⟩
    rw [hN]
    have HN := Lib.hid hN
    rw [hN] at HX HL
    clear hN
    have HIH := Lib.hid ih
    clear ih
    go_enter Try.func31, Try.ntmps31
    go_wp2_with fail
    go_loopw [5, 6] (fun m i wr => ∃ (k q : Nat), k ≤ n ∧ k < q ∧ m = .int .i64 q ∧ i = .int .i64 k ∧ q ≤ 300 + (301 + 300 * d) ∧ capS (szD d) (x.kids.drop k) q = capS (szD d) x.kids 1 ∧ Gr (w.alloc (.cells #[.int .i64 x.kind, .string x.lab, .slice A n c] 25)) wr) (fun _ i _ => n - (intOf i).toNat)
    case atStart => exact ⟨0, 1, Nat.zero_le _, by omega, rfl, rfl, by omega, by simp, Gr.refl _⟩
    case round =>
      obtain ⟨k, q, hk, hkq, rfl, rfl, hq, hs, hb⟩ := hrel
      have HS := Lib.hid hs
      have HB := Lib.hid hb
      have hbl := hb.below
      rw [World.size_alloc] at hbl
      obtain ⟨-, -, c2⟩ := box_cells hbl
      clear hs hb hbl
      by_cases hlt : k < n
      · by_cases hq3 : q ≤ 300
        · have e1 : k < x.kids.length := by have := HN.out; omega
          have hBw : Below B w wr := (((Below.refl _ w).alloc hB _).trans (HB.out.below.mono (by simp; omega)))
          obtain ⟨ad, k3, f1, _, q0, q1, q2, q3⟩ := XR.at3 (HX.out.bel hBw) e1
          subst f1
          have hxv : XV B wr (.agg #[.int .i64 x.kids[k].kind, .string x.kids[k].lab, k3]) x.kids[k] := ⟨k3, rfl, q3⟩
          have HXV := Lib.hid hxv
          have hBr : Hid (B ≤ wr.heap.size) := Lib.hid (Nat.le_trans hB hBw.size)
          clear q3 hBw hxv
          have hsd := szD_le d x.kids[k]
          have hsp := szD_pos d x.kids[k]
          go_wp2_with (go_at_call 31; refine (HIH.out _ _ _ _ HXV.out hBr.out (by omega)).mono ?_; rintro e w1 ⟨rfl, hg⟩; have HG := Lib.hid (HB.out.trans hg); clear hg)
          go_roundw
          case rel => exact ⟨k + 1, q + szD d x.kids[k], by omega, by omega, by go_num, by go_num, by omega, by rw [← capS_step e1 hq3]; exact HS.out, HG.out⟩
          case measure => simp [intOf]; omega
        · go_wp2_with fail
          go_ret
          refine ⟨ret_int ?_, (Gr.refl _ |>.alloc _).trans HB.out⟩
          have := HS.out
          rw [capS_stop _ hq3] at this
          rw [this, szD]
      · have : k = n := by omega
        subst this
        go_wp2_with fail
        go_ret
        refine ⟨ret_int ?_, (Gr.refl _ |>.alloc _).trans HB.out⟩
        have := HS.out
        rw [List.drop_of_length_le (by have := HN.out; omega)] at this
        rw [szD, ← this]
        simp [capS]
end Go.Proofs.Ytnohnkhhkeikoaa
