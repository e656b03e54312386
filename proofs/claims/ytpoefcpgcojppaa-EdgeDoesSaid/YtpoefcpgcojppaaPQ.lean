/- Rows of edges in memory; walk of what counts them. -/
import Derived.Test.YtpoefcpgcojppaaPO
namespace Go.Proofs.Ytpoefcpgcojppaa
open Go.ChangeShapes Go.WideShapes Go.ChangeAt Go.RowKit
set_option linter.unusedVariables false

/-- an edge with the slice of its props: five cells -/
abbrev Ev := Ed × Value
def encX (x : Ev) : List Value := [.string x.1.src, .string x.1.dst, .string x.1.lab, .int .i64 x.1.time, x.2]
def flatX (l : List Ev) : List Value := l.flatMap encX
theorem flatX_len (l : List Ev) : (flatX l).length = l.length * 5 := by simp [flatX, encX, List.length_flatMap, Function.comp_def, List.map_const']
theorem flatX_cons (x : Ev) (l : List Ev) : flatX (x :: l) = .string x.1.src :: .string x.1.dst :: .string x.1.lab :: .int .i64 x.1.time :: x.2 :: flatX l := by simp [flatX, encX]
theorem flatX_at : ∀ (l : List Ev) (k : Nat) (h : k < l.length), (flatX l)[k * 5]? = some (.string l[k].1.src) ∧ (flatX l)[k * 5 + 1]? = some (.string l[k].1.dst) ∧ (flatX l)[k * 5 + 2]? = some (.string l[k].1.lab) ∧ (flatX l)[k * 5 + 3]? = some (.int .i64 l[k].1.time) ∧ (flatX l)[k * 5 + 4]? = some l[k].2
  | x :: l, 0, h => by simp [flatX, encX]
  | x :: l, k + 1, h => by
    have := flatX_at l k (by simp at h; omega)
    simp only [List.getElem_cons_succ]
    rw [flatX_cons, show (k + 1) * 5 = k * 5 + 1 + 1 + 1 + 1 + 1 by omega, show k * 5 + 1 + 1 + 1 + 1 + 1 + 1 = (k * 5 + 1) + 1 + 1 + 1 + 1 + 1 by omega, show k * 5 + 1 + 1 + 1 + 1 + 1 + 2 = (k * 5 + 2) + 1 + 1 + 1 + 1 + 1 by omega, show k * 5 + 1 + 1 + 1 + 1 + 1 + 3 = (k * 5 + 3) + 1 + 1 + 1 + 1 + 1 by omega, show k * 5 + 1 + 1 + 1 + 1 + 1 + 4 = (k * 5 + 4) + 1 + 1 + 1 + 1 + 1 by omega]
    simpa only [List.getElem?_cons_succ] using this

/-- the slice v holds just the edges of l; each slice of props holds its edge's -/
structure ER (w : World) (v : Value) (l : List Ev) : Prop where
  row : ∃ A c, v = .slice A l.length c ∧ (0 < l.length → ∃ ad, A = some ad ∧ ad.block < w.heap.size ∧ ∀ j u, (flatX l)[j]? = some u → w.cell? (ad.add j) = some u)
  each : ∀ p ∈ l, PR w p.2 p.1.props
theorem ER.form {w : World} {v : Value} {l : List Ev} (h : ER w v l) : ∃ A c, v = .slice A l.length c := by
  obtain ⟨A, c, e, _⟩ := h.row
  exact ⟨A, c, e⟩
theorem ER.below {w w' : World} {v : Value} {l : List Ev} (h : ER w v l) (hb : Below w.heap.size w w') : ER w' v l := by
  obtain ⟨⟨A, c, rfl, hr⟩, he⟩ := h
  refine ⟨⟨A, c, rfl, fun hn => ?_⟩, fun p hp => (he p hp).below hb⟩
  obtain ⟨ad, rfl, hg, hc⟩ := hr hn
  exact ⟨ad, rfl, Nat.lt_of_lt_of_le hg hb.size, fun j u hj => (hb.cell (p := ad.add j) (by rw [block_add]; exact hg)).trans (hc j u hj)⟩
theorem ER.at4 {w : World} {A : Option Addr} {n c : Nat} {l : List Ev} (h : ER w (.slice A n c) l) {k : Nat} (hk : k < l.length) :
    ∃ ad, A = some ad ∧ ad.block < w.heap.size ∧ w.cell? (ad.add (k * 5)) = some (.string l[k].1.src) ∧ w.cell? ⟨(ad.add (k * 5)).block, (ad.add (k * 5)).off + 1, none⟩ = some (.string l[k].1.dst) ∧ w.cell? ⟨(ad.add (k * 5)).block, (ad.add (k * 5)).off + 2, none⟩ = some (.string l[k].1.lab) ∧ w.cell? ⟨(ad.add (k * 5)).block, (ad.add (k * 5)).off + 3, none⟩ = some (.int .i64 l[k].1.time) ∧ w.cell? ⟨(ad.add (k * 5)).block, (ad.add (k * 5)).off + 4, none⟩ = some l[k].2 := by
  obtain ⟨A', c', e, h⟩ := h.row
  injection e with e1 e2 e3
  subst e1
  obtain ⟨ad, h1, h2, h3⟩ := h (by omega)
  obtain ⟨f0, f1, f2, f3, f4⟩ := flatX_at l k hk
  refine ⟨ad, h1, h2, h3 _ _ f0, ?_, ?_, ?_, ?_⟩
  · rw [← add_off ad (by omega)]; exact h3 _ _ f1
  · rw [← add_off ad (by omega)]; exact h3 _ _ f2
  · rw [← add_off ad (by omega)]; exact h3 _ _ f3
  · rw [← add_off ad (by omega)]; exact h3 _ _ f4
/-- a row just built -/
theorem ER.of_block {w : World} {b : Nat} {l : List Ev} {t : TypeId} {vs : List Value} (h : w.heap[b]? = some (.cells vs.toArray t (0, 0))) (hv : vs = flatX l) (c : Nat) (he : ∀ p ∈ l, PR w p.2 p.1.props) : ER w (.slice (some ⟨b, 0, none⟩) l.length c) l := by
  subst hv
  refine ⟨⟨_, c, rfl, fun hn => ⟨_, rfl, (Array.getElem?_eq_some_iff.1 h).1, fun j u hj => ?_⟩⟩, he⟩
  have h2 := cell_of_row w b j _ t (0, 0) h
  have e : (Addr.add ⟨b, 0, none⟩ j) = ⟨b, j, none⟩ := by
    unfold Addr.add
    split
    · rename_i h0; subst h0; rfl
    · simp
  rw [e, h2]
  simpa using hj

def SizR (l : List Ev) (w : World) (x : Ending) (w' : World) : Prop := ∃ n : Int, x = .returned (.int .i64 n) ∧ (l.length : Int) ≤ n ∧ n ≤ 562949953421312 ∧ Gr w w'

set_option maxHeartbeats 2000000 in
theorem size_any {w : World} {v : Value} {l : List Ev} (h : ER w v l) (hl : l.length ≤ 281474976710656) (hp : ∀ p ∈ l, p.1.props.length ≤ 281474976710656) : Calls Try.prog 9 #[v] w (SizR l w) := by
  unfold SizR
  have H := Lib.hid h
  have HP := Lib.hid hp
  obtain ⟨A, c, rfl⟩ := h.form
  clear h hp
  obtain ⟨n, hN⟩ : ∃ n, l.length = n := ⟨_, rfl⟩
  have HN := Lib.hid hN
  rw [hN] at H hl ⊢
  clear hN
  go_enter Try.func9, Try.ntmps9
  go_wp2_with fail
  go_loopw [3, 4] (fun s i wr => ∃ (k : Nat) (m : Int), k ≤ n ∧ i = .int .i64 k ∧ s = .int .i64 m ∧ (n : Int) ≤ m ∧ m ≤ 281474976712656 ∧ Gr w wr) (fun _ i _ => n - (Lib.intOf i).toNat)
  case atStart => exact ⟨0, n, Nat.zero_le _, rfl, rfl, by omega, by omega, Gr.refl _⟩
  case round =>
    obtain ⟨k, m, hk, rfl, rfl, h1, h2, hb⟩ := hrel
    have HB := Lib.hid hb
    clear hb
    by_cases hlt : k < n
    · by_cases hm : m ≤ 2000
      · have e1 : k < l.length := by have := HN.out; omega
        obtain ⟨ad, f1, _, _, _, _, _, q4⟩ := ER.at4 (H.out.below HB.out.below) e1
        subst f1
        obtain ⟨B, d, hq⟩ := (H.out.each _ (List.getElem_mem e1)).form
        have hle := HP.out _ (List.getElem_mem e1)
        rw [hq] at q4
        generalize l[k].1.props.length = pn at *
        clear hq
        go_wp2_with fail
        go_roundw
        case rel => exact ⟨k + 1, m + pn, by omega, by go_num, by go_num, by omega, by omega, HB.out⟩
        case measure => simp [Lib.intOf]; omega
      · go_wp2_with fail
        go_ret
        exact ⟨m, rfl, by omega, by omega, HB.out⟩
    · obtain rfl : k = n := by omega
      go_wp2_with fail
      go_ret
      exact ⟨m, rfl, by omega, by omega, HB.out⟩
end Go.Proofs.Ytpoefcpgcojppaa
