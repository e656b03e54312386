/- Walks of what no heap tells: nil, and a heap that New did not answer. -/
import Derived.Test.YtabbgananngjlaaN
import Derived.Test.YtabbgananngjlaaO
namespace Go.Proofs.Ytabbgananngjlaa
open Go.ChangeShapes Go.WideShapes Go.ChangeAt Go.RowKit Go.Shelf
set_option linter.unusedVariables false

attribute [local go_sem] Oper.semAt_some

/-- no heap: its pointer -/
def NoH (w : World) (p : Option Addr) : Prop := p = none ∨ ∃ z, p = some ⟨z, 0, none⟩ ∧ w.heap[z]? = some (.cells #[.pointer none, .slice none 0 0] 65 (0, 0))
theorem NoH.below {w w' : World} {p : Option Addr} (h : NoH w p) (hb : Below w.heap.size w w') : NoH w' p := by
  rcases h with h | ⟨z, h, hz⟩
  · exact .inl h
  · exact .inr ⟨z, h, (hb.block z (Array.getElem?_eq_some_iff.1 hz).1).trans hz⟩

theorem made_no {w : World} {p : Option Addr} (h : NoH w p) : Calls Try.prog 32 #[.pointer p] w fun e w' => e = .returned (.bool false) ∧ w = w' := by
  rcases h with rfl | ⟨z, rfl, hz⟩
  · exact made_nil w
  · exact made_zero (by simp [World.cell?, hz])
theorem len_no {w : World} {p : Option Addr} (h : NoH w p) : Calls Try.prog 25 #[.pointer p] w fun e w' => e = .returned (.int .i64 0) ∧ w = w' := by
  go_enter Try.func25, Try.ntmps25
  go_wp2_with fail
  refine (made_no h).mono ?_
  rintro e w' ⟨rfl, rfl⟩
  go_wp2_with fail
  go_ret
  exact ⟨rfl, rfl⟩
theorem push_no {w : World} {p : Option Addr} (h : NoH w p) (A : Option Addr) (n c : Nat) : Calls Try.prog 14 #[.pointer p, .slice A n c] w fun e w' => e = .returned (.int .i64 1) ∧ w = w' := by
  go_enter Try.func14, Try.ntmps14
  go_wp2_with fail
  refine (made_no h).mono ?_
  rintro e w' ⟨rfl, rfl⟩
  go_wp2_with fail
  go_ret
  exact ⟨rfl, rfl⟩
theorem items_no {w : World} {p : Option Addr} (h : NoH w p) : Calls Try.prog 24 #[.pointer p] w fun e w' => e = .returned (.slice none 0 0) ∧ w = w' := by
  go_enter Try.func24, Try.ntmps24
  go_wp2_with fail
  refine (made_no h).mono ?_
  rintro e w' ⟨rfl, rfl⟩
  go_wp2_with fail
  go_ret
  exact ⟨rfl, rfl⟩
theorem copy_no {w : World} {p : Option Addr} (h : NoH w p) : Calls Try.prog 21 #[.pointer p] w fun e w' => e = .returned (.pointer none) ∧ w = w' := by
  go_enter Try.func21, Try.ntmps21
  go_wp2_with fail
  refine (made_no h).mono ?_
  rintro e w' ⟨rfl, rfl⟩
  go_wp2_with fail
  go_ret
  exact ⟨rfl, rfl⟩
/-- nothing is there -/
def NoneR (w : World) (e : Ending) (w' : World) : Prop := e = .returned (.tuple #[.agg #[.int .i64 0, .int .i64 0], .bool false]) ∧ Below w.heap.size w w'
theorem first_no {w : World} {p : Option Addr} (h : NoH w p) : Calls Try.prog 22 #[.pointer p] w (NoneR w) := by
  have H := Lib.hid h
  clear h
  go_enter Try.func22, Try.ntmps22
  go_wp2_with fail
  refine (len_no (H.out.below ((Below.refl _ _).alloc (Nat.le_refl _) _))).mono ?_
  rintro e w' ⟨rfl, rfl⟩
  go_wp2_with fail
  refine bodyPost_ret (v := .tuple #[.agg #[.int .i64 0, .int .i64 0], .bool false]) (by simp [results, Try.results22, go_sem]) rfl ⟨rfl, ?_⟩
  exact ((Below.refl _ _).alloc (Nat.le_refl _) _)
set_option maxRecDepth 100000 in
theorem pop_no {w : World} {p : Option Addr} (h : NoH w p) : Calls Try.prog 16 #[.pointer p] w (NoneR w) := by
  have H := Lib.hid h
  clear h
  go_enter Try.func16, Try.ntmps16
  go_wp2_with fail
  refine (first_no (H.out.below ((Below.refl _ _).alloc (Nat.le_refl _) _))).mono ?_
  rintro e w1 ⟨rfl, hb1⟩
  have hz : w.heap.size < w1.heap.size := by have := hb1.size; simp at this; omega
  have hblk : w1.heap[w.heap.size]? = some (.cells #[.int .i64 0, .int .i64 0] 40 (0, 0)) := (hb1.block _ (by simp)).trans (heap_alloc_new w _)
  have r0 := cell_of_row _ _ 0 _ 40 (0, 0) hblk
  have r1 := cell_of_row _ _ 1 _ 40 (0, 0) hblk
  have r2 : w1.frozen? ⟨w.heap.size, 0, none⟩ = false := by simp [World.frozen?, hblk]
  have r3 : w1.frozen? ⟨w.heap.size, 1, none⟩ = false := by simp [World.frozen?, hblk]
  have hB : Below w.heap.size w w1 := ((Below.refl _ w).alloc (Nat.le_refl _) _).trans (hb1.mono (by simp))
  have HB := Lib.hid hB
  clear hb1 hB hblk
  go_wp2_with fail
  refine bodyPost_ret (v := .tuple #[.agg #[.int .i64 0, .int .i64 0], .bool false]) (by simp [results, Try.results16, go_sem, hz, r0, r1, r2, r3]) rfl ⟨rfl, ?_⟩
  exact ((HB.out.setCell (p := ⟨w.heap.size, 0, none⟩) (Nat.le_refl _) _).setCell (p := ⟨w.heap.size, 1, none⟩) (Nat.le_refl _) _).alloc (by simp only [World.size_setCell]; omega) _

theorem upto_no (p : Option Addr) (key : Int) (w : World) : Calls Try.prog 29 #[.pointer p, .int .i64 key] w fun e w' =>
    e = .returned (.func (.func 38) #[] #[.pointer (some ⟨w.heap.size, 0, none⟩), .pointer (some ⟨w.heap.size + 1, 0, none⟩)]) ∧ w' = (w.alloc (.cells #[.pointer p] 26)).alloc (.cells #[.int .i64 key] 3) := by
  go_enter Try.func29, Try.ntmps29
  go_wp2_with fail
  go_ret
  exact ⟨rfl, rfl⟩

set_option maxRecDepth 100000 in
theorem up_seq_no (n bh bk : Nat) (p : Option Addr) (I Dn : World → Prop) (hI : ∀ W, I W → W.cell? ⟨bh, 0, none⟩ = some (.pointer p) ∧ NoH W p ∧ ∀ W', Below W.heap.size W W' → Dn W') :
    SeqDir Fence.wide n Try.prog 38 #[.pointer (some ⟨bh, 0, none⟩), .pointer (some ⟨bk, 0, none⟩)] (fun x : It => #[.agg #[.int .i64 x.1, .int .i64 x.2]]) (fun _ => I) (fun _ _ _ => False) Dn := by
  intro l G Jx W m hG hY h0 hg0
  have HG := Lib.hid hG
  clear hY hG
  obtain ⟨cb, hn, hd⟩ := hI W h0
  have HD := Lib.hid hd
  have HG0 := Lib.hid hg0
  have hbhl : bh < W.heap.size := by
    obtain ⟨o, ho, _⟩ := cells_of_cell cb
    exact (Array.getElem?_eq_some_iff.1 ho).1
  have hf := first_no hn
  clear hI h0 hd hg0 hn
  refine callsIn_of_wp Try.func38 rfl trivial ?_ rfl
  simp only [Try.ntmps38, List.size_toArray, List.length_cons, List.length_nil, Nat.reduceAdd, Nat.reduceSub, Array.replicate_succ, Array.replicate_zero, List.push_toArray, List.append_toArray, List.nil_append, List.cons_append]
  gi_wp2
  gi_loopw [] (fun wr => wr = W) (fun wr => 0)
  case atStart => rfl
  case round =>
    subst hrel
    gi_wp2
    refine ⟨trivial, (fun h => nomatch h), ?_⟩
    refine (callsIn_wide.2 hf).mono ?_
    rintro e w1 ⟨rfl, hb1⟩
    have HB1 := Lib.hid hb1
    clear hb1 hf
    gi_wp2
    refine bodyPost_ret (results_none rfl _ _ _) rfl ?_
    have hbw := HB1.out.alloc HB1.out.size (.cells #[.int .i64 0, .int .i64 0] 40)
    exact ⟨⟨_, rfl⟩, .inl ⟨HD.out _ hbw, HG.out _ _ HG0.out (below_others hbw)⟩⟩
end Go.Proofs.Ytabbgananngjlaa
