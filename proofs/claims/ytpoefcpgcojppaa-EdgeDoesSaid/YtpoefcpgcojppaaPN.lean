/- Walk of what is guessed of bytes. -/
import Derived.Test.YtpoefcpgcojppaaPM
import Derived.Deep.RegionHeld3
import Derived.Laws.EntriesVeiled
import Derived.Deep.CutBlock
import Derived.Lib.SmallJoins
namespace Go.Proofs.Ytpoefcpgcojppaa
open Go.ChangeShapes Go.WideShapes Go.ChangeAt Go.RowKit
set_option linter.unusedVariables false

/-- an edge told as cells, its props in a row of their own -/
def GuessR (e : Ed) (w : World) (x : Ending) (w' : World) : Prop := ∃ pv, x = .returned (e.v pv) ∧ w'.ownsRow w.heap.size 53 4 pv e.props.length (flatP e.props) ∧ Below w.heap.size w w'
/-- an edge's block -/
def EB (w : World) (E : Nat) (s d l : ByteArray) (t : Int) (pv : Value) : Prop := w.heap[E]? = some (.cells #[.string s, .string d, .string l, .int .i64 t, pv] 24 (0, 0))

theorem env_new (w1 : World) (B : Nat) (hB : B < w1.heap.size) :
    Env2 (((w1.alloc (.cells #[.func (.func 80) #[] #[.pointer (some ⟨B, 0, none⟩)]] 64)).alloc (.cells #[.func (.func 81) #[] #[.pointer (some ⟨w1.heap.size, 0, none⟩)]] 88)).alloc (.cells #[.func (.func 82) #[] #[.pointer (some ⟨w1.heap.size, 0, none⟩), .pointer (some ⟨w1.heap.size + 1, 0, none⟩)]] 77)) B w1.heap.size (w1.heap.size + 1) (w1.heap.size + 1 + 1) := by
  obtain ⟨wa, hwa⟩ : ∃ wa, w1.alloc (.cells #[.func (.func 80) #[] #[.pointer (some ⟨B, 0, none⟩)]] 64) = wa := ⟨_, rfl⟩
  have a1 := heap_alloc_new w1 (.cells #[.func (.func 80) #[] #[.pointer (some ⟨B, 0, none⟩)]] 64)
  have s1 : wa.heap.size = w1.heap.size + 1 := by rw [← hwa]; simp
  rw [hwa] at a1 ⊢
  obtain ⟨wb, hwb⟩ : ∃ wb, wa.alloc (.cells #[.func (.func 81) #[] #[.pointer (some ⟨w1.heap.size, 0, none⟩)]] 88) = wb := ⟨_, rfl⟩
  have b1 := heap_alloc_new wa (.cells #[.func (.func 81) #[] #[.pointer (some ⟨w1.heap.size, 0, none⟩)]] 88)
  have s2 : wb.heap.size = wa.heap.size + 1 := by rw [← hwb]; simp
  have hb : Below wa.heap.size wa wb := by rw [← hwb]; exact (Below.refl _ wa).alloc (Nat.le_refl _) _
  rw [hwb] at b1 ⊢
  have c1 := heap_alloc_new wb (.cells #[.func (.func 82) #[] #[.pointer (some ⟨w1.heap.size, 0, none⟩), .pointer (some ⟨w1.heap.size + 1, 0, none⟩)]] 77)
  have hc : Below wb.heap.size wb (wb.alloc (.cells #[.func (.func 82) #[] #[.pointer (some ⟨w1.heap.size, 0, none⟩), .pointer (some ⟨w1.heap.size + 1, 0, none⟩)]] 77)) := (Below.refl _ wb).alloc (Nat.le_refl _) _
  have s3 : (wb.alloc (.cells #[.func (.func 82) #[] #[.pointer (some ⟨w1.heap.size, 0, none⟩), .pointer (some ⟨w1.heap.size + 1, 0, none⟩)]] 77)).heap.size = wb.heap.size + 1 := by simp
  generalize wb.alloc (.cells #[.func (.func 82) #[] #[.pointer (some ⟨w1.heap.size, 0, none⟩), .pointer (some ⟨w1.heap.size + 1, 0, none⟩)]] 77) = wc at *
  rw [s1] at b1
  rw [s2, s1] at c1
  exact ⟨⟨((hc.cell (p := ⟨w1.heap.size, 0, none⟩) (by show w1.heap.size < _; omega)).trans (hb.cell (p := ⟨w1.heap.size, 0, none⟩) (by show w1.heap.size < _; omega))).trans (cell_of_row _ _ 0 _ 64 (0, 0) a1), (hc.cell (p := ⟨w1.heap.size + 1, 0, none⟩) (by show w1.heap.size + 1 < _; omega)).trans (cell_of_row _ _ 0 _ 88 (0, 0) b1), by omega, by omega, by omega, by omega⟩, cell_of_row _ _ 0 _ 77 (0, 0) c1, by omega, by omega⟩

/-- none of an edge's cells is frozen -/
structure Fx5 (w : World) (b : Nat) : Prop where
  f0 : w.frozen? ⟨b, 0, none⟩ = false
  f1 : w.frozen? ⟨b, 1, none⟩ = false
  f2 : w.frozen? ⟨b, 2, none⟩ = false
  f3 : w.frozen? ⟨b, 3, none⟩ = false
  f4 : w.frozen? ⟨b, 4, none⟩ = false
theorem Fx5.of {w : World} {b : Nat} {c : Array Value} {t : TypeId} (h : w.heap[b]? = some (.cells c t (0, 0))) : Fx5 w b :=
  ⟨by simp [World.frozen?, h], by simp [World.frozen?, h], by simp [World.frozen?, h], by simp [World.frozen?, h], by simp [World.frozen?, h]⟩
theorem memE {w w' : World} {B E : Nat} {o : Obj} (hk : Keep (fun k => k ≠ B) w w') (h : w.heap[E]? = some o ∧ E < w.heap.size) (hE : B < E) : w'.heap[E]? = some o := (hk.block E h.2 (by show E ≠ B; omega)).trans h.1

theorem set1_keep (w : World) (E i : Nat) (a : Value) : Keep (fun k => k ≠ E) w (w.setCell ⟨E, i, none⟩ a) := ⟨rfl, rfl, rfl, by simp, fun k _ hk => by rw [Below.heap_setCell _ _ _ _ hk]⟩
theorem set5_keep (w : World) (E : Nat) (a0 a1 a2 a3 a4 : Value) : Keep (fun k => k ≠ E) w (((((w.setCell ⟨E, 0, none⟩ a0).setCell ⟨E, 1, none⟩ a1).setCell ⟨E, 2, none⟩ a2).setCell ⟨E, 3, none⟩ a3).setCell ⟨E, 4, none⟩ a4) :=
  keepB_trans (keepB_trans (keepB_trans (keepB_trans (set1_keep _ E 0 a0) (set1_keep _ E 1 a1)) (set1_keep _ E 2 a2)) (set1_keep _ E 3 a3)) (set1_keep _ E 4 a4)
theorem set5_env {w : World} {B NX NB TX E : Nat} {a0 a1 a2 a3 a4 : Value} (h : Env2 w B NX NB TX) (h1 : E ≠ TX) (h2 : E ≠ NB) :
    (((((w.setCell ⟨E, 0, none⟩ a0).setCell ⟨E, 1, none⟩ a1).setCell ⟨E, 2, none⟩ a2).setCell ⟨E, 3, none⟩ a3).setCell ⟨E, 4, none⟩ a4).cell? ⟨TX, 0, none⟩ = some (.func (.func 82) #[] #[.pointer (some ⟨NX, 0, none⟩), .pointer (some ⟨NB, 0, none⟩)]) ∧ (((((w.setCell ⟨E, 0, none⟩ a0).setCell ⟨E, 1, none⟩ a1).setCell ⟨E, 2, none⟩ a2).setCell ⟨E, 3, none⟩ a3).setCell ⟨E, 4, none⟩ a4).cell? ⟨NB, 0, none⟩ = some (.func (.func 81) #[] #[.pointer (some ⟨NX, 0, none⟩)]) :=
  ⟨(World.cell?_of_block (a := ⟨TX, 0, none⟩) ((set5_keep w E a0 a1 a2 a3 a4).block TX h.lt (by show TX ≠ E; omega))).trans h.tx, (World.cell?_of_block (a := ⟨NB, 0, none⟩) ((set5_keep w E a0 a1 a2 a3 a4).block NB h.env.lb (by show NB ≠ E; omega))).trans h.env.nb⟩

/-- the edge's own block, as it is laid -/
abbrev zE5 : Obj := .cells #[.string ⟨#[]⟩, .string ⟨#[]⟩, .string ⟨#[]⟩, .int .i64 0, .slice none 0 0] 24
theorem alloc_zE5 {w w' : World} {B : Nat} (hB : B < w.heap.size) (hk : Keep (fun k => k ≠ B) (w.alloc zE5) w') : Keep (fun k => k ≠ B) w w' ∧ w'.heap[w.heap.size]? = some (.cells #[.string ⟨#[]⟩, .string ⟨#[]⟩, .string ⟨#[]⟩, .int .i64 0, .slice none 0 0] 24 (0, 0)) ∧ w.heap.size < w'.heap.size := by
  have hs : (w.alloc zE5).heap.size = w.heap.size + 1 := by simp
  refine ⟨keepB_trans (keepB_below ((Below.refl _ w).alloc (Nat.le_refl _) _)) hk, (hk.block w.heap.size (by omega) (by show w.heap.size ≠ B; omega)).trans (heap_alloc_new w _), ?_⟩
  have := hk.size
  omega
def MemE (W w w' : World) : Prop := W = w.alloc zE5 → w'.heap[w.heap.size]? = some (.cells #[.string ⟨#[]⟩, .string ⟨#[]⟩, .string ⟨#[]⟩, .int .i64 0, .slice none 0 0] 24 (0, 0)) ∧ w.heap.size < w'.heap.size
theorem text_read2 {w W : World} {B NX NB : Nat} {l : List UInt8} (h : RdS w B l) (he : Env w B NX NB) (hl : l.length ≤ 281474976710656) (hW : W = w ∨ W = w.alloc zE5) : Calls Try.prog 82 #[.pointer (some ⟨NX, 0, none⟩), .pointer (some ⟨NB, 0, none⟩)] W fun e w' => e = .returned (.string (rdT l).1) ∧ RdS w' B (rdT l).2 ∧ Keep (fun k => k ≠ B) w w' ∧ MemE W w w' := by
  have hb : Below w.heap.size w (w.alloc zE5) := (Below.refl _ w).alloc (Nat.le_refl _) _
  rcases hW with rfl | rfl
  · refine (text_read h he hl).mono ?_
    rintro e w' ⟨h1, h2, h3⟩
    refine ⟨h1, h2, h3, fun e => ?_⟩
    have := congrArg (fun w : World => w.heap.size) e
    simp at this
  · refine (text_read (h.below hb) (he.keep (keepB_below hb)) hl).mono ?_
    rintro e w' ⟨h1, h2, h3⟩
    have h4 := alloc_zE5 h.lt h3
    exact ⟨h1, h2, h4.1, fun _ => h4.2⟩
theorem number2 {w W : World} {B N : Nat} {l : List UInt8} (h : RdS w B l) (hN : w.cell? ⟨N, 0, none⟩ = some (.func (.func 80) #[] #[.pointer (some ⟨B, 0, none⟩)])) (hNlt : N < w.heap.size) (hl : l.length ≤ 281474976710656) (hW : W = w ∨ W = w.alloc zE5) : Calls Try.prog 81 #[.int .i64 6, .pointer (some ⟨N, 0, none⟩)] W fun e w' => e = .returned (.int .i64 (beN (l.take 6))) ∧ RdS w' B (l.drop 6) ∧ Keep (fun k => k ≠ B) w w' ∧ MemE W w w' := by
  have hb : Below w.heap.size w (w.alloc zE5) := (Below.refl _ w).alloc (Nat.le_refl _) _
  rcases hW with rfl | rfl
  · refine (number_any h hN 6 (by omega) hl).mono ?_
    rintro e w' ⟨h1, h2, h3⟩
    refine ⟨h1, h2, h3, fun e => ?_⟩
    have := congrArg (fun w : World => w.heap.size) e
    simp at this
  · refine (number_any (h.below hb) ((hb.cell (p := ⟨N, 0, none⟩) hNlt).trans hN) 6 (by omega) hl).mono ?_
    rintro e w' ⟨h1, h2, h3⟩
    have h4 := alloc_zE5 h.lt h3
    exact ⟨h1, h2, h4.1, fun _ => h4.2⟩

theorem own_keepB {w w' : World} {B base n sz : Nat} {t : TypeId} {v : Value} {xs : List Value} (h : w.ownsRow base t sz v n xs) (hk : Keep (fun k => k ≠ B) w w') (hB : B < base) : w'.ownsRow base t sz v n xs := by
  refine ⟨h.1, ?_⟩
  rcases h.2 with hn | ⟨g, cap, cur, hv, hg, hh, rest⟩
  · exact .inl hn
  · exact .inr ⟨g, cap, cur, hv, hg, (hk.block g (Array.getElem?_eq_some_iff.1 hh).1 (by show g ≠ B; omega)).trans hh, rest⟩
theorem own_some {W : World} {base sz k : Nat} {t : TypeId} {v : Value} {xs : List Value} (h : W.ownsRow base t sz v (k + 1) xs) : ∃ g cap, v = .slice (some ⟨g, 0, none⟩) (k + 1) cap := by
  rcases h.2 with ⟨_, h0⟩ | ⟨g, cap, _, rfl, _⟩
  · omega
  · exact ⟨g, cap, rfl⟩
theorem Env2.keepP {w w' : World} {B NX NB TX : Nat} {p : Nat → Prop} (h : Env2 w B NX NB TX) (hk : Keep p w w') (h1 : p NX) (h2 : p NB) (h3 : p TX) : Env2 w' B NX NB TX :=
  ⟨⟨(World.cell?_of_block (a := ⟨NX, 0, none⟩) (hk.block NX h.env.lx h1)).trans h.env.nx, (World.cell?_of_block (a := ⟨NB, 0, none⟩) (hk.block NB h.env.lb h2)).trans h.env.nb, h.env.hx, h.env.hb, Nat.lt_of_lt_of_le h.env.lx hk.size, Nat.lt_of_lt_of_le h.env.lb hk.size⟩, (World.cell?_of_block (a := ⟨TX, 0, none⟩) (hk.block TX h.lt h3)).trans h.tx, h.ht, Nat.lt_of_lt_of_le h.lt hk.size⟩
structure Done (w5 : World) (B NX NB TX : Nat) (l : List UInt8) (s d q : ByteArray) (t : Int) (E : Nat) (w' : World) : Prop where
  eb : EB w' E s d q t (.slice none 0 0)
  rd : RdS w' B l
  env : Env2 w' B NX NB TX
  keep : Keep (fun k => k ≠ B) w5 w'
  le : w5.heap.size ≤ E
theorem Done.of_set {w w5 : World} {B NX NB TX E : Nat} {l : List UInt8} {s d q : ByteArray} {t : Int} (hm : w.heap[E]? = some (.cells #[.string ⟨#[]⟩, .string ⟨#[]⟩, .string ⟨#[]⟩, .int .i64 0, .slice none 0 0] 24 (0, 0))) (hr : RdS w B l) (he : Env2 w B NX NB TX) (hk : Keep (fun k => k ≠ B) w5 w) (hE : w5.heap.size ≤ E) (h1 : E ≠ NX) (h2 : E ≠ NB) (h3 : E ≠ TX) (hB : B < w5.heap.size) :
    Done w5 B NX NB TX l s d q t E (((((w.setCell ⟨E, 0, none⟩ (.string s)).setCell ⟨E, 1, none⟩ (.string d)).setCell ⟨E, 2, none⟩ (.string q)).setCell ⟨E, 3, none⟩ (.int .i64 t)).setCell ⟨E, 4, none⟩ (.slice none 0 0)) := by
  have hK := set5_keep w E (.string s) (.string d) (.string q) (.int .i64 t) (.slice none 0 0)
  refine ⟨Go.Joins.block_setCell (Go.Joins.block_setCell (Go.Joins.block_setCell (Go.Joins.block_setCell (Go.Joins.block_setCell hm _) _) _) _) _, hr.keep hK fun k hk => by omega, ⟨⟨?_, ?_, he.env.hx, he.env.hb, ?_, ?_⟩, ?_, he.ht, ?_⟩, hk.trans hK fun k hk _ => by omega, hE⟩
  · exact (World.cell?_of_block (a := ⟨NX, 0, none⟩) (hK.block NX he.env.lx (by show NX ≠ E; omega))).trans he.env.nx
  · exact (World.cell?_of_block (a := ⟨NB, 0, none⟩) (hK.block NB he.env.lb (by show NB ≠ E; omega))).trans he.env.nb
  · exact Nat.lt_of_lt_of_le he.env.lx hK.size
  · exact Nat.lt_of_lt_of_le he.env.lb hK.size
  · exact (World.cell?_of_block (a := ⟨TX, 0, none⟩) (hK.block TX he.lt (by show TX ≠ E; omega))).trans he.tx
  · exact Nat.lt_of_lt_of_le he.lt hK.size
theorem Done.of_new {w w5 : World} {B NX NB TX : Nat} {l : List UInt8} {s d q : ByteArray} {t : Int} (hr : RdS w B l) (he : Env2 w B NX NB TX) (hk : Keep (fun k => k ≠ B) w5 w) :
    Done w5 B NX NB TX l s d q t w.heap.size (w.alloc (.cells #[.string s, .string d, .string q, .int .i64 t, .slice none 0 0] 24)) := by
  have hb : Below w.heap.size w (w.alloc (.cells #[.string s, .string d, .string q, .int .i64 t, .slice none 0 0] 24)) := (Below.refl _ w).alloc (Nat.le_refl _) _
  exact ⟨heap_alloc_new w _, hr.below hb, he.keep (keepB_below hb), keepB_trans hk (keepB_below hb), hk.size⟩

set_option maxHeartbeats 4000000 in
set_option maxRecDepth 100000 in
theorem guess_any {w : World} {v : Value} {l : List UInt8} (h : BR w v l) (hcap : ∀ A n c, v = .slice A n c → n ≤ c ∧ (A = none → c = 0)) (hl : l.length ≤ 281474976710656) : Calls Try.prog 57 #[v] w (GuessR (guess l) w) := by
  unfold GuessR
  obtain ⟨A, c, rfl, hc⟩ := h
  have hsb : SB (w.alloc (.cells #[.slice A l.length c] 34)) w.heap.size (.slice A l.length c) l := by
    have h1 := hcap A _ c rfl
    refine ⟨A, c, rfl, h1.1, fun hn => ?_, h1.2⟩
    obtain ⟨ad, e1, e2, e3⟩ := hc hn
    have hb : Below w.heap.size w (w.alloc (.cells #[.slice A l.length c] 34)) := (Below.refl _ w).alloc (Nat.le_refl _) _
    exact ⟨ad, e1, e2, by simp; omega, fun j u hj => (hb.cell (p := ad.add j) (by rw [block_add]; exact e2)).trans (e3 j u hj)⟩
  have hfz : ∀ (W : World) (b : Nat) (x : Value) (t : TypeId), W.heap[b]? = some (.cells #[x] t (0, 0)) → W.frozen? ⟨b, 0, none⟩ = false := fun W b x t h => by simp [World.frozen?, h]
  have hrd : RdS (w.alloc (.cells #[.slice A l.length c] 34)) w.heap.size l := by
    have h1 := heap_alloc_new w (.cells #[.slice A l.length c] 34)
    exact ⟨⟨_, cell_of_row _ _ 0 _ 34 (0, 0) h1, hsb⟩, hfz _ _ _ _ h1, by simp⟩
  have HRD := Lib.hid hrd
  obtain ⟨m, hM⟩ : ∃ m, l.length = m := ⟨_, rfl⟩
  rw [hM] at HRD ⊢
  clear hsb hrd hfz hc hcap
  have HZ0 := Lib.hid (show (w.alloc (.cells #[.slice A m c] 34)).heap.size = w.heap.size + 1 by simp)
  have HB0 := Lib.hid ((Below.refl w.heap.size w).alloc (Nat.le_refl _) (.cells #[.slice A m c] 34))
  go_enter Try.func57, Try.ntmps57
  go_upto_region 1 with (fail)
  generalize hw0 : w.alloc (.cells #[.slice A m c] 34) = w0 at *
  rw [← HZ0.out]
  have HZ1 := Lib.hid (show (w0.alloc (.cells #[.string ⟨#[]⟩, .string ⟨#[]⟩, .string ⟨#[]⟩, .int .i64 0, .slice none 0 0] 24)).heap.size = w0.heap.size + 1 by simp)
  have HB1 := Lib.hid ((Below.refl w0.heap.size w0).alloc (Nat.le_refl _) (.cells #[.string ⟨#[]⟩, .string ⟨#[]⟩, .string ⟨#[]⟩, .int .i64 0, .slice none 0 0] 24))
  have HE1 := Lib.hid (heap_alloc_new w0 (.cells #[.string ⟨#[]⟩, .string ⟨#[]⟩, .string ⟨#[]⟩, .int .i64 0, .slice none 0 0] 24))
  generalize w0.alloc (.cells #[.string ⟨#[]⟩, .string ⟨#[]⟩, .string ⟨#[]⟩, .int .i64 0, .slice none 0 0] 24) = w1 at *
  obtain ⟨B, hB⟩ : ∃ B, w.heap.size = B := ⟨_, rfl⟩
  obtain ⟨R, hR⟩ : ∃ R, w0.heap.size = R := ⟨_, rfl⟩
  go_upto_region 5 with (fail)
  have hzz := And.intro HZ0.out HZ1.out
  have HE5 := Lib.hid (env_new w1 B (by omega))
  have hba : Below w1.heap.size w1 (((w1.alloc (.cells #[.func (.func 80) #[] #[.pointer (some ⟨B, 0, none⟩)]] 64)).alloc (.cells #[.func (.func 81) #[] #[.pointer (some ⟨w1.heap.size, 0, none⟩)]] 88)).alloc (.cells #[.func (.func 82) #[] #[.pointer (some ⟨w1.heap.size, 0, none⟩), .pointer (some ⟨w1.heap.size + 1, 0, none⟩)]] 77)) := (((Below.refl _ w1).alloc (Nat.le_refl _) _).alloc (by simp) _).alloc (by simp; omega) _
  have HB5 := Lib.hid (hba)
  have HR5 := Lib.hid ((HRD.out.below HB1.out).below hba)
  have hs5 : (((w1.alloc (.cells #[.func (.func 80) #[] #[.pointer (some ⟨B, 0, none⟩)]] 64)).alloc (.cells #[.func (.func 81) #[] #[.pointer (some ⟨w1.heap.size, 0, none⟩)]] 88)).alloc (.cells #[.func (.func 82) #[] #[.pointer (some ⟨w1.heap.size, 0, none⟩), .pointer (some ⟨w1.heap.size + 1, 0, none⟩)]] 77)).heap.size = w1.heap.size + 3 := by simp
  clear hba
  generalize ((w1.alloc (.cells #[.func (.func 80) #[] #[.pointer (some ⟨B, 0, none⟩)]] 64)).alloc (.cells #[.func (.func 81) #[] #[.pointer (some ⟨w1.heap.size, 0, none⟩)]] 88)).alloc (.cells #[.func (.func 82) #[] #[.pointer (some ⟨w1.heap.size, 0, none⟩), .pointer (some ⟨w1.heap.size + 1, 0, none⟩)]] 77) = w5 at *
  obtain ⟨NX, hNX⟩ : ∃ N, w1.heap.size = N := ⟨_, rfl⟩
  rw [hB] at HR5
  rw [hNX] at HE5 ⊢
  generalize hNB : NX + 1 = NB at *
  generalize hTX : NB + 1 = TX at *
  have c0 : w5.drew.cell? ⟨TX, 0, none⟩ = some (.func (.func 82) #[] #[.pointer (some ⟨NX, 0, none⟩), .pointer (some ⟨NB, 0, none⟩)]) := HE5.out.tx
  have c1 : w5.drew.cell? ⟨NB, 0, none⟩ = some (.func (.func 81) #[] #[.pointer (some ⟨NX, 0, none⟩)]) := HE5.out.env.nb
  have EA : ∀ W o, Env2 W B NX NB TX → (W.alloc o).cell? ⟨TX, 0, none⟩ = some (.func (.func 82) #[] #[.pointer (some ⟨NX, 0, none⟩), .pointer (some ⟨NB, 0, none⟩)]) ∧ (W.alloc o).cell? ⟨NB, 0, none⟩ = some (.func (.func 81) #[] #[.pointer (some ⟨NX, 0, none⟩)]) := fun W o hE => by
    have h := hE.keep (keepB_below ((Below.refl _ W).alloc (Nat.le_refl _) o))
    exact ⟨h.tx, h.env.nb⟩
  have EAH := Lib.hid EA
  have EAD : Hid (∀ o, (w5.alloc o).drew.cell? ⟨TX, 0, none⟩ = some (.func (.func 82) #[] #[.pointer (some ⟨NX, 0, none⟩), .pointer (some ⟨NB, 0, none⟩)]) ∧ (w5.alloc o).drew.cell? ⟨NB, 0, none⟩ = some (.func (.func 81) #[] #[.pointer (some ⟨NX, 0, none⟩)])) := fun o => EA w5 o HE5.out
  clear EA
  have hk5 : Keep (fun k => k ≠ B) w5 w5.drew := keepB_below ((Below.refl _ w5).drew)
  have R0 := Lib.hid (HR5.out.below ((Below.refl _ w5).drew))
  have E0 : Hid (Env2 w5.drew B NX NB TX) := HE5.out.keep hk5
  have HK5 := Lib.hid hk5
  have HLL := Lib.hid (And.intro (rdT_len l) (And.intro (rdT_len (g1 l)) (rdT_len (g2 l))))
  have hl1 : (g1 l).length ≤ 281474976710656 := Nat.le_trans HLL.out.1 hl
  have hl2 : (g2 l).length ≤ 281474976710656 := Nat.le_trans HLL.out.2.1 hl1
  have hl3 : (g3 l).length ≤ 281474976710656 := Nat.le_trans HLL.out.2.2 hl2
  clear hk5
  have HEQ := Lib.hid (And.intro hs5 (And.intro hNX (And.intro hNB (And.intro hTX (And.intro hB (And.intro hR (And.intro hM hzz)))))))
  clear hs5 hNX hNB hTX hB hR hM hzz
  have HLT := Lib.hid (And.intro HE5.out.env.lx (And.intro HE5.out.env.lb (And.intro HE5.out.lt HR5.out.lt)))
  go_cut [7] from 12 (fun t7 wc => ∃ E, t7 = .pointer (some ⟨E, 0, none⟩) ∧ Done w5 B NX NB TX (g4 l) (rdT l).1 (rdT (g1 l)).1 (rdT (g2 l)).1 (beN ((g3 l).take 6)) E wc)
  case first =>
    go_region_held3 (fun w' => w'.cell? ⟨TX, 0, none⟩ = some (.func (.func 82) #[] #[.pointer (some ⟨NX, 0, none⟩), .pointer (some ⟨NB, 0, none⟩)]) ∧ w'.cell? ⟨NB, 0, none⟩ = some (.func (.func 81) #[] #[.pointer (some ⟨NX, 0, none⟩)])) (first | with_reducible exact ⟨c0, c1⟩ | with_reducible exact ⟨y0, y1⟩ | with_reducible exact ⟨z0, z1⟩ | with_reducible exact ⟨x0, x1⟩ | with_reducible exact ⟨u0, u1⟩ | with_reducible exact EAD.out _ | with_reducible exact EAH.out _ _ E1.out | with_reducible exact EAH.out _ _ E2.out | with_reducible exact EAH.out _ _ E3.out | with_reducible exact EAH.out _ _ E4.out | with_reducible exact set5_env E4.out (Nat.ne_of_gt HE5.out.lt) (Nat.ne_of_gt HE5.out.env.lb) | with_reducible exact set5_env E4.out (Nat.ne_of_gt E1.out.lt) (Nat.ne_of_gt E1.out.env.lb) | with_reducible exact set5_env E4.out (Nat.ne_of_gt E2.out.lt) (Nat.ne_of_gt E2.out.env.lb) | with_reducible exact set5_env E4.out (Nat.ne_of_gt E3.out.lt) (Nat.ne_of_gt E3.out.env.lb) | (go_keep; done)) (first
      | (go_at_call 82; first
          | (refine (text_read2 R0.out E0.out.env hl (by first | with_reducible exact Or.inl rfl | with_reducible exact Or.inr rfl | exact Or.inr rfl)).mono ?_; clear R0; rintro x wA ⟨rfl, r1, k1, m1⟩; have R1 := Lib.hid (show RdS wA B (g1 l) from r1); have K1 := Lib.hid (keepB_trans HK5.out k1); have E1 := Lib.hid (HE5.out.keep K1.out); have y0 := E1.out.tx; have y1 := E1.out.env.nb; have J1 := Lib.hid k1; have M1 := Lib.hid m1; clear r1 k1 m1)
          | (refine (text_read2 R1.out E1.out.env hl1 (by first | with_reducible exact Or.inl rfl | with_reducible exact Or.inr rfl)).mono ?_; clear R1; rintro x wB ⟨rfl, r1, k1, m1⟩; have R2 := Lib.hid (show RdS wB B (g2 l) from r1); have K2 := Lib.hid (keepB_trans K1.out k1); have E2 := Lib.hid (HE5.out.keep K2.out); have z0 := E2.out.tx; have z1 := E2.out.env.nb; have J2 := Lib.hid k1; have M2 := Lib.hid m1; clear r1 k1 m1)
          | (refine (text_read2 R2.out E2.out.env hl2 (by first | with_reducible exact Or.inl rfl | with_reducible exact Or.inr rfl)).mono ?_; clear R2; rintro x wC ⟨rfl, r1, k1, m1⟩; have R3 := Lib.hid (show RdS wC B (g3 l) from r1); have K3 := Lib.hid (keepB_trans K2.out k1); have E3 := Lib.hid (HE5.out.keep K3.out); have x0 := E3.out.tx; have x1 := E3.out.env.nb; have J3 := Lib.hid k1; have M3 := Lib.hid m1; clear r1 k1 m1))
      | (go_at_call 81; refine (number2 R3.out E3.out.env.nx E3.out.env.lx hl3 (by first | with_reducible exact Or.inl rfl | with_reducible exact Or.inr rfl)).mono ?_; clear R3; rintro x wD ⟨rfl, r1, k1, m1⟩; have R4 := Lib.hid (show RdS wD B (g4 l) from r1); have K4 := Lib.hid (keepB_trans K3.out k1); have E4 := Lib.hid (HE5.out.keep K4.out); have u0 := E4.out.tx; have u1 := E4.out.env.nb; have J4 := Lib.hid k1; have M4 := Lib.hid m1; clear r1 k1 m1; first | (have MM := Lib.hid (memE (keepB_trans J3.out J4.out) (M2.out (by with_reducible rfl)) (Nat.lt_of_lt_of_le HR5.out.lt K1.out.size)); obtain ⟨t0, t1, t2, t3, t4, _⟩ := Bx5.of MM.out; obtain ⟨v0, v1, v2, v3, v4⟩ := Fx5.of MM.out) | (have MM := Lib.hid (memE J4.out (M3.out (by with_reducible rfl)) (Nat.lt_of_lt_of_le HR5.out.lt K2.out.size)); obtain ⟨t0, t1, t2, t3, t4, _⟩ := Bx5.of MM.out; obtain ⟨v0, v1, v2, v3, v4⟩ := Fx5.of MM.out) | (have MM := Lib.hid ((M4.out (by with_reducible rfl)).1); obtain ⟨t0, t1, t2, t3, t4, _⟩ := Bx5.of MM.out; obtain ⟨v0, v1, v2, v3, v4⟩ := Fx5.of MM.out) | (have MM := Lib.hid (show wD.heap[w5.heap.size]? = some (.cells #[.string ⟨#[]⟩, .string ⟨#[]⟩, .string ⟨#[]⟩, .int .i64 0, .slice none 0 0] 24 (0, 0)) from memE (keepB_trans (keepB_trans J2.out J3.out) J4.out) (M1.out rfl) HR5.out.lt); obtain ⟨t0, t1, t2, t3, t4, _⟩ := Bx5.of MM.out; obtain ⟨v0, v1, v2, v3, v4⟩ := Fx5.of MM.out) | skip))
    all_goals go_wp2_with fail
    all_goals go_meet
    all_goals first
      | exact ⟨_, rfl, Done.of_new R4.out E4.out K4.out⟩
      | exact ⟨_, rfl, Done.of_set MM.out R4.out E4.out K4.out (Nat.le_refl _) (Nat.ne_of_gt HLT.out.1) (Nat.ne_of_gt HLT.out.2.1) (Nat.ne_of_gt HLT.out.2.2.1) HLT.out.2.2.2⟩
      | exact ⟨_, rfl, Done.of_set MM.out R4.out E4.out K4.out K1.out.size (Nat.ne_of_gt E1.out.env.lx) (Nat.ne_of_gt E1.out.env.lb) (Nat.ne_of_gt E1.out.lt) HLT.out.2.2.2⟩
      | exact ⟨_, rfl, Done.of_set MM.out R4.out E4.out K4.out K2.out.size (Nat.ne_of_gt E2.out.env.lx) (Nat.ne_of_gt E2.out.env.lb) (Nat.ne_of_gt E2.out.lt) HLT.out.2.2.2⟩
      | exact ⟨_, rfl, Done.of_set MM.out R4.out E4.out K4.out K3.out.size (Nat.ne_of_gt E3.out.env.lx) (Nat.ne_of_gt E3.out.env.lb) (Nat.ne_of_gt E3.out.lt) HLT.out.2.2.2⟩
  case rest =>
    obtain ⟨E, rfl, hdn⟩ := hcut
    clear c0 c1
    obtain ⟨heb, hrd4, henv4, hk4, hle4⟩ := hdn
    have hBw5 : B < w5.heap.size := HLT.out.2.2.2
    have hEB : E ≠ B := by omega
    have HEB := Lib.hid heb
    have HK4 := Lib.hid hk4
    have HV4 := Lib.hid henv4
    have hl4 : (g4 l).length ≤ 281474976710656 := by unfold g4; rw [List.length_drop]; omega
    have hgn : beN ((g4 l).take 1) = (gN l : Int) := by
      unfold gN
      have := (beN1 (g4 l)).1
      omega
    have hnum := number_any hrd4 henv4.env.nx 1 (by omega) hl4
    unfold NumR at hnum
    rw [hgn] at hnum
    have hn255 : gN l < 256 := by have := (beN1 (g4 l)).2; omega
    have HG : Hid (guess l = ⟨(rdT l).1, (rdT (g1 l)).1, (rdT (g2 l)).1, beN ((g3 l).take 6), (rdPs (gN l) (g5 l)).1⟩) := rfl
    have hg5 : (g4 l).drop 1 = g5 l := rfl
    rw [hg5] at hnum
    have hl5 : (g5 l).length ≤ 281474976710656 := by rw [← hg5, List.length_drop]; omega
    have FN := Lib.hid hnum
    have c1 := henv4.env.nb
    have HEt := Lib.hid (show E < wc.heap.size from (Array.getElem?_eq_some_iff.1 heb).1)
    clear hnum hgn hg5 hrd4 henv4 hk4 heb
    generalize (rdT l).1 = xs at *
    generalize (rdT (g1 l)).1 = xd at *
    generalize (rdT (g2 l)).1 = xl at *
    generalize beN ((g3 l).take 6) = xt at *
    generalize gN l = n at *
    generalize g5 l = l5 at *
    obtain ⟨i0, hi, hz0, hz1, hz2⟩ := info_parts53
    go_wp2_with (go_at_call 81; refine FN.out.mono ?_; clear FN; rintro x w6 ⟨rfl, r6, k6⟩; have HR6 := Lib.hid r6; have HK6 := Lib.hid (keepB_trans HK4.out k6); have HV6 := Lib.hid (HV4.out.keep k6); have HE6 := Lib.hid (show EB w6 E xs xd xl xt (.slice none 0 0) from (k6.block E HEt.out hEB).trans HEB.out); have hs6 : E < w6.heap.size := Nat.lt_of_lt_of_le HEt.out k6.size; clear r6 k6 c1)
    go_loopw [23] (fun i wr => ∃ (k : Nat) (pv : Value), k ≤ n ∧ i = .int .i64 k ∧ EB wr E xs xd xl xt pv ∧ wr.ownsRow w6.heap.size 53 4 pv k (flatP (rdPs k l5).1) ∧ RdS wr B (rdPs k l5).2 ∧ Env2 wr B NX NB TX ∧ Keep (fun j => j ≠ B) w5 wr ∧ w6.heap.size ≤ wr.heap.size) (fun i _ => n - (Lib.intOf i).toNat)
    case atStart => exact ⟨0, .slice none 0 0, Nat.zero_le _, rfl, HE6.out, by simpa [rdPs, flatP] using World.ownsRow_nil w6 w6.heap.size 53 4, HR6.out, HV6.out, HK6.out, Nat.le_refl _⟩
    case round =>
      obtain ⟨k, pv, hk, rfl, heb, hown, hrd, henv, hkp, hsz⟩ := hrel
      by_cases hlt : k < n
      · have HEBr := Lib.hid heb
        have HOW := Lib.hid hown
        have HRD := Lib.hid hrd
        have HENV := Lib.hid henv
        have HKP := Lib.hid hkp
        have hErr : E < wr.heap.size := Nat.lt_of_lt_of_le hs6 hsz
        have c4 := cell_of_row _ _ 4 _ 24 (0, 0) heb
        have ct := henv.tx
        have hlr : (rdPs k l5).2.length ≤ 281474976710656 := Nat.le_trans (rdPs_len k l5) hl5
        have hlr2 : (rdT (rdPs k l5).2).2.length ≤ 281474976710656 := Nat.le_trans (rdT_len _) hlr
        have FT := Lib.hid (text_read (hrd.below ((Below.refl _ wr).drew)) (henv.env.keep (keepB_below ((Below.refl _ wr).drew))) hlr)
        have HST : Hid (rdPs (k + 1) l5 = ((rdPs k l5).1 ++ [((rdT (rdPs k l5).2).1, (rdV (rdT (rdPs k l5).2).2).1)], (rdV (rdT (rdPs k l5).2).2).2)) := rfl
        unfold TextR at FT
        generalize rdPs k l5 = rk at *
        obtain ⟨ps, lk⟩ := rk
        simp only at *
        generalize (rdT lk).1 = xk at *
        generalize (rdT lk).2 = lv at *
        generalize hxv : rdV lv = rv at *
        obtain ⟨xv, l6⟩ := rv
        simp only at *
        have HXV := Lib.hid hxv
        clear heb hown hrd henv hkp hxv hlr
        go_upto_block 1 with (fail)
        go_cut [23] from 23 to 35 (fun t23 wx => ∃ pv', t23 = .int .i64 k ∧ EB wx E xs xd xl xt pv' ∧ wx.ownsRow w6.heap.size 53 4 pv' (k + 1) (flatP (ps ++ [(xk, xv)])) ∧ RdS wx B l6 ∧ Env2 wx B NX NB TX ∧ Keep (fun j => j ≠ B) w5 wx ∧ w6.heap.size ≤ wx.heap.size)
        case first =>
          have HEA : ∀ W, Keep (fun j => j ≠ B) wr W → Hid (EB W E xs xd xl xt pv) := fun W hW => (hW.block E hErr hEB).trans HEBr.out
          have HB6 : B < w6.heap.size := by omega
          have HOWB : ∀ (W : World) (o : Obj), Keep (fun j => j ≠ B) wr W → (W.alloc o).ownsRow w6.heap.size 53 4 pv k (flatP ps) := fun W o hW => (own_keepB HOW.out hW HB6).alloc _
          have HE7 : ∀ (W W' : World) (o : Obj), Keep (fun j => j ≠ B) wr W → (W.alloc o).grownBy W' pv.ownBlock → EB W' E xs xd xl xt pv := fun W W' o hW hg => by
            have h1 : E < W.heap.size := Nat.lt_of_lt_of_le hErr hW.size
            have h2 : some E ≠ pv.ownBlock := fun e => by have := own_base HOW.out E e.symm; omega
            exact ((hg.block E (by simp; omega) h2).trans (Below.heap_alloc W o E h1)).trans (HEA W hW).out
          have HOWBH := Lib.hid HOWB
          have HE7H := Lib.hid HE7
          clear HOWB HE7
          go_upto_region 8 with (fail)
          go_region_law (first
            | (go_simp; go_at_call 82; refine FT.out.mono ?_; clear FT; rintro x wA ⟨rfl, r1, k1⟩; have KA := Lib.hid (keepB_trans (keepB_below ((Below.refl _ wr).drew)) k1); have RA := Lib.hid r1; have EA := Lib.hid (HENV.out.keep KA.out); have a4 := cell_of_row _ _ 4 _ 24 (0, 0) (HEA wA KA.out).out; have FV := Lib.hid (val_read r1 EA.out hlr2); unfold ValR at FV; rw [HXV.out] at FV; clear r1 k1)
            | (go_simp; go_at_call 83; refine FV.out.mono ?_; clear FV; rintro x wB ⟨rfl, r1, k1⟩; have KB := Lib.hid (keepB_trans KA.out k1); have RB := Lib.hid r1; have EB' := Lib.hid (HENV.out.keep KB.out); have b4 := cell_of_row _ _ 4 _ 24 (0, 0) (HEA wB KB.out).out; have HBB := Lib.hid (HEA wB KB.out).out; have hlE : E < wB.heap.size := Nat.lt_of_lt_of_le hErr KB.out.size; have bb4 : (wB.alloc (.cells #[.string xk, .int .i64 xv.1, .int .i64 xv.2.1, .string xv.2.2] 53)).cell? ⟨E, 4, none⟩ = some pv := (((Below.refl _ wB).alloc (Nat.le_refl _) (.cells #[.string xk, .int .i64 xv.1, .int .i64 xv.2.1, .string xv.2.2] 53)).cell (p := ⟨E, 4, none⟩) hlE).trans b4; clear r1 k1)
            | (refine step_append_pr rfl (.tmp 26) (.tmp 32) rfl (base := w6.heap.size) Try.underlying22 hi hz0 hz1 hz2 (v := pv) (by simp [Act.eval, Act.put]) (HOWBH.out wB _ KB.out) (v2 := .slice (some ⟨wB.heap.size, 0, none⟩) 1 1) (by simp [Act.eval, Act.put]) (PR.one wB (xk, xv) 53) (by simp; omega) (by have := KB.out.size; simp; omega) ?_; intro v7 w7 hown7 hgrow7 hat7; obtain ⟨g7, c7, hv7⟩ := own_some (show w7.ownsRow w6.heap.size 53 4 v7 (k + 1) (flatP ps ++ flatP [(xk, xv)]) from hown7); subst hv7; have H7 := Lib.hid (And.intro hown7 (And.intro hgrow7 hat7)); have hb7 := HE7H.out wB w7 _ KB.out hgrow7; have g4 := cell_of_row _ _ 4 _ 24 (0, 0) hb7; have g5 := Go.Joins.unfrozen_of_block hb7 4; have HB7 := Lib.hid hb7; clear hown7 hgrow7 hat7 hb7))
          all_goals
            have K9 : Keep (fun j => j < w5.heap.size) wB (w7.setCell ⟨E, 4, none⟩ (.slice (some ⟨g7, 0, none⟩) (k + 1) c7)) := by
              have hsA := KB.out.size
              have hs7 := H7.out.2.1.size
              rw [World.size_alloc] at hs7
              refine ⟨H7.out.2.1.os, H7.out.2.1.tape, H7.out.2.1.output, by simp; omega, fun j hj hj5 => ?_⟩
              have hjE : j ≠ E := by have : j < w5.heap.size := hj5; omega
              have hjo : some j ≠ pv.ownBlock := fun e => by have := own_base HOW.out j e.symm; have : j < w5.heap.size := hj5; omega
              rw [Below.heap_setCell _ _ _ _ hjE]
              exact (H7.out.2.1.block j (by rw [World.size_alloc]; omega) hjo).trans (Below.heap_alloc wB _ j hj)
            have HK9 := Lib.hid K9
            have HO9 := Lib.hid (ownsRow_setCell_below (show w7.ownsRow w6.heap.size 53 4 (.slice (some ⟨g7, 0, none⟩) (k + 1) c7) (k + 1) (flatP (ps ++ [(xk, xv)])) by rw [flatP_app]; exact H7.out.1) (a := ⟨E, 4, none⟩) (by show E < _; omega) (.slice (some ⟨g7, 0, none⟩) (k + 1) c7))
            have HB9 : Hid (EB (w7.setCell ⟨E, 4, none⟩ (.slice (some ⟨g7, 0, none⟩) (k + 1) c7)) E xs xd xl xt (.slice (some ⟨g7, 0, none⟩) (k + 1) c7)) := Go.Joins.block_setCell HB7.out _
            have HZ9 := Lib.hid (show w6.heap.size ≤ (w7.setCell ⟨E, 4, none⟩ (.slice (some ⟨g7, 0, none⟩) (k + 1) c7)).heap.size from Nat.le_trans hsz (Nat.le_trans KB.out.size K9.size))
            clear K9
          all_goals go_wp2_with fail
          all_goals go_meet
          all_goals exact ⟨_, rfl, HB9.out, HO9.out, RB.out.keep HK9.out (fun j hj => by show j < _; omega), EB'.out.keepP HK9.out HLT.out.1 HLT.out.2.1 HLT.out.2.2.1, (keepB_trans HKP.out KB.out).trans HK9.out (fun j hj _ => hj), HZ9.out⟩
        case rest =>
          obtain ⟨pv', rfl, e1, e2, e3, e4, e5, e6⟩ := hcut
          have HS := Lib.hid (And.intro e1 (And.intro e2 (And.intro e3 (And.intro e4 (And.intro e5 e6)))))
          clear e1 e2 e3 e4 e5 e6 c4 ct
          go_wp2_with fail
          go_roundw
          case rel => exact ⟨k + 1, pv', by omega, by go_num, HS.out.1, by rw [HST.out]; exact HS.out.2.1, by rw [HST.out]; exact HS.out.2.2.1, HS.out.2.2.2⟩
          case measure => simp [Lib.intOf]; omega
      · obtain rfl : k = n := by omega
        have HOW := Lib.hid hown
        have HKP := Lib.hid hkp
        have hform : ∃ A c, pv = .slice A k c := by
          rcases hown.2 with ⟨rfl, rfl⟩ | ⟨g, cap, cur, rfl, _⟩
          · exact ⟨_, _, rfl⟩
          · exact ⟨_, _, rfl⟩
        obtain ⟨Ap, cp, rfl⟩ := hform
        have c0 := cell_of_row _ _ 0 _ 24 (0, 0) heb
        have c1 := cell_of_row _ _ 1 _ 24 (0, 0) heb
        have c2 := cell_of_row _ _ 2 _ 24 (0, 0) heb
        have c3 := cell_of_row _ _ 3 _ 24 (0, 0) heb
        have c4 := cell_of_row _ _ 4 _ 24 (0, 0) heb
        -- the answer's block
        have hq := HEQ.out
        have hz0 := HZ0.out
        have hz1 := HZ1.out
        have hRr : wr.heap[w0.heap.size]? = some (.cells #[.string ⟨#[]⟩, .string ⟨#[]⟩, .string ⟨#[]⟩, .int .i64 0, .slice none 0 0] 24 (0, 0)) :=
          (hkp.block w0.heap.size (by omega) (by show w0.heap.size ≠ B; omega)).trans ((HB5.out.block w0.heap.size (by omega)).trans HE1.out)
        have d0 := cell_of_row _ _ 0 _ 24 (0, 0) hRr
        have d1 := cell_of_row _ _ 1 _ 24 (0, 0) hRr
        have d2 := cell_of_row _ _ 2 _ 24 (0, 0) hRr
        have d3 := cell_of_row _ _ 3 _ 24 (0, 0) hRr
        have d4 := cell_of_row _ _ 4 _ 24 (0, 0) hRr
        obtain ⟨f0, f1, f2, f3, f4⟩ := Fx5.of hRr
        have hER : E ≠ w0.heap.size := by omega
        have hR6 : w0.heap.size < w6.heap.size := by omega
        have HFIN : Hid ((((((wr.setCell ⟨w0.heap.size, 0, none⟩ (.string xs)).setCell ⟨w0.heap.size, 1, none⟩ (.string xd)).setCell ⟨w0.heap.size, 2, none⟩ (.string xl)).setCell ⟨w0.heap.size, 3, none⟩ (.int .i64 xt)).setCell ⟨w0.heap.size, 4, none⟩ (.slice Ap k cp)).ownsRow w.heap.size 53 4 (.slice Ap k cp) k (flatP (rdPs k l5).1) ∧ Below w.heap.size w (((((wr.setCell ⟨w0.heap.size, 0, none⟩ (.string xs)).setCell ⟨w0.heap.size, 1, none⟩ (.string xd)).setCell ⟨w0.heap.size, 2, none⟩ (.string xl)).setCell ⟨w0.heap.size, 3, none⟩ (.int .i64 xt)).setCell ⟨w0.heap.size, 4, none⟩ (.slice Ap k cp))) := by
          refine ⟨own_lower (ownsRow_setCell_below (ownsRow_setCell_below (ownsRow_setCell_below (ownsRow_setCell_below (ownsRow_setCell_below hown (a := ⟨w0.heap.size, 0, none⟩) hR6 _) (a := ⟨w0.heap.size, 1, none⟩) hR6 _) (a := ⟨w0.heap.size, 2, none⟩) hR6 _) (a := ⟨w0.heap.size, 3, none⟩) hR6 _) (a := ⟨w0.heap.size, 4, none⟩) hR6 _) (by omega), ?_⟩
          have hK := set5_keep wr w0.heap.size (.string xs) (.string xd) (.string xl) (.int .i64 xt) (.slice Ap k cp)
          have h1 : Below w.heap.size w w5 := HB0.out.trans ((HB1.out.mono (by omega)).trans (HB5.out.mono (by omega)))
          have hs5 := h1.size
          refine ⟨(hK.os.trans hkp.os).trans h1.os, (hK.tape.trans hkp.tape).trans h1.tape, (hK.output.trans hkp.output).trans h1.output, Nat.le_trans h1.size (Nat.le_trans hkp.size hK.size), fun j hj => ?_⟩
          have hsw := hkp.size
          exact ((hK.block j (by omega) (by show j ≠ w0.heap.size; omega)).trans (hkp.block j (by omega) (by show j ≠ B; omega))).trans (h1.block j hj)
        have HN := Lib.hid (rdPs_num k l5)
        clear hq hz0 hz1 hR6 hER hown hrd henv hkp hsz
        go_wp2_with fail
        exact bodyPost_ret (v := .agg #[.string xs, .string xd, .string xl, .int .i64 xt, .slice Ap k cp]) (by simp [results, Try.results57, go_sem, d0, d1, d2, d3, d4, f0, f1, f2, f3, f4]) rfl ⟨.slice Ap k cp, by rw [HG.out]; rfl, by rw [HG.out]; simp only; rw [HN.out]; exact HFIN.out.1, HFIN.out.2⟩
end Go.Proofs.Ytpoefcpgcojppaa
