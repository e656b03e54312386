/- Walk of the chapter's example. -/
import Derived.Test.YtfcdgfjpmcapkaaGreatCD
import Derived.Test.YtfcdgfjpmcapkaaGreatCF
import Derived.LaidEql
namespace Go.Proofs.YtfcdgfjpmcapkaaGreat
open Go.ChangeShapes Go.WideShapes Go.ChangeAt Go.RowKit Go.Maps Go.Shelf
set_option linter.unusedVariables false

attribute [local go_sem] Oper.semAt_some

/-- a bag of a law's own, made behind lo -/
structure Bs (lo : Nat) (W : World) (b : Nat) (O : Nat → Prop) (S : List Et) (n : Nat) : Prop where
  bag : Bag W b O S n
  low : ∀ k, O k → lo ≤ k
  sz : lo ≤ W.heap.size
theorem Bs.of_made {w w' : World} {b : Nat} {O : Nat → Prop} (h : Bag w' b O [] 0) (hl : ∀ k, O k → w.heap.size ≤ k) (hb : Below w.heap.size w w') : Bs w.heap.size w' b O [] 0 := ⟨h, hl, hb.size⟩
theorem Bs.below {lo : Nat} {W W' : World} {b : Nat} {O : Nat → Prop} {S : List Et} {n : Nat} (h : Bs lo W b O S n) (hb : Below W.heap.size W W') : Bs lo W' b O S n := ⟨h.bag.below hb, h.low, Nat.le_trans h.sz hb.size⟩
theorem Bs.next {lo : Nat} {W W' : World} {b : Nat} {O : Nat → Prop} {S S' : List Et} {n n' : Nat} (h : Bs lo W b O S n) (hb : Bag W' b (grw O W W') S' n') (hk : Keep (fun k => ¬ O k) W W') : Bs lo W' b (grw O W W') S' n' ∧ Below lo W W' :=
  ⟨⟨hb, fun k hk' => by
    rcases hk' with hk' | hk'
    · exact h.low k hk'
    · exact Nat.le_trans h.sz hk'.1, Nat.le_trans h.sz hk.size⟩, hk.below h.sz fun k hlt ho => by have := h.low k ho; omega⟩
theorem Bs.down {lo lo' : Nat} {W : World} {b : Nat} {O : Nat → Prop} {S : List Et} {n : Nat} (h : Bs lo W b O S n) (hl : lo' ≤ lo) : Bs lo' W b O S n := ⟨h.bag, fun k hk => Nat.le_trans hl (h.low k hk), Nat.le_trans hl h.sz⟩

/-- a new block of entries, read as a slice of them -/
theorem pe_new (W : World) (l : List Et) (cap n : Nat) (hn : n = l.length) : PE (W.alloc (.cells (flatE l).toArray 38)) (.slice (some ⟨W.heap.size, 0, none⟩) n cap) l := by
  subst hn
  refine ⟨_, cap, rfl, fun _ => ⟨_, rfl, by simp, fun k hk => ?_⟩⟩
  have h := heap_alloc_new W (.cells (flatE l).toArray 38)
  obtain ⟨f1, f2, f3⟩ := flatE_at l k hk
  refine ⟨?_, ?_, ?_⟩
  · rw [Addr.add_lit, cell_of_row _ _ _ _ 38 (0, 0) h]
    simpa using f1
  · rw [Addr.add_lit, cell_of_row _ _ _ _ 38 (0, 0) h]
    simpa using f2
  · rw [Addr.add_lit, cell_of_row _ _ _ _ 38 (0, 0) h]
    simpa using f3

theorem eqIn38 (W : World) (d : Nat) (a a' : ByteArray) (b c b' c' : Int) : (Op.equalIn (d + 1 + 1) 38 (.agg #[.string a, .int .i64 b, .int .i64 c]) (.agg #[.string a', .int .i64 b', .int .i64 c'])).run Tryz.prog W = .ok (decide ((a, b, c) = (a', b', c'))) W := by
  rw [run_equalIn_struct W (d + 1) 38 _ _ (by kernel_rfl) (by kernel_rfl)]
  simp [Program.fieldsOf, Tryz.underlying38, Op.eqFields, go_sem]
  have hl : a.toList = a'.toList ↔ a = a' := ⟨fun h => data_inj (by rwa [ByteArray.toList_eq, ByteArray.toList_eq] at h), fun h => by rw [h]⟩
  simp only [hl]
  by_cases h1 : a = a' <;> by_cases h2 : b = b' <;> by_cases h3 : c = c' <;> simp [h1, h2, h3]
theorem eq38 (W : World) (a a' : ByteArray) (b c b' c' : Int) : (binOp .eql 38 (.agg #[.string a, .int .i64 b, .int .i64 c]) (.agg #[.string a', .int .i64 b', .int .i64 c'])).run Tryz.prog W = .ok (.bool (decide ((a, b, c) = (a', b', c')))) W := by
  rw [run_eql_struct, eqIn38]
  rfl
theorem ne38 (W : World) (a a' : ByteArray) (b c b' c' : Int) : (binOp .neq 38 (.agg #[.string a, .int .i64 b, .int .i64 c]) (.agg #[.string a', .int .i64 b', .int .i64 c'])).run Tryz.prog W = .ok (.bool (!decide ((a, b, c) = (a', b', c')))) W := by
  rw [run_neq_struct, eqIn38]
  rfl

def exX : ByteArray := ⟨#[120]⟩
def exL : List Et := [(exX, 1, 5), (exX, 1, 3), (exX, 2, 4)]
theorem ex_puts : putsS [] exL = [(exX, 1, 5), (exX, 2, 4)] := by decide +kernel
theorem ex_of : ofS [(exX, 1, 5), (exX, 2, 4)] exX = [(exX, 1, 5), (exX, 2, 4)] := by decide +kernel
theorem ex_cut : cutS [(exX, 1, 5), (exX, 2, 4)] 4 = [(exX, 1, 5)] := by decide +kernel
theorem ex_we : ∀ k, k < exL.length → We (ge exL k) := by
  intro k hk
  match k, hk with
  | 0, _ => exact ⟨by decide, by decide, by decide⟩
  | 1, _ => exact ⟨by decide, by decide, by decide⟩
  | 2, _ => exact ⟨by decide, by decide, by decide⟩

set_option maxRecDepth 100000 in
set_option maxHeartbeats 1000000 in
theorem awake_any (w : World) : Calls Tryz.prog 8 #[] w fun e w' => e = .returned (.bool true) ∧ Below w.heap.size w w' := by
  go_enter Tryz.func8, Tryz.ntmps8
  go_wp2_with fail
  refine (new_bag _).mono ?_
  rintro e w1 ⟨b, O, rfl, hB1, hO1, hb1⟩
  have HS1 := Lib.hid (Bs.of_made hB1 hO1 hb1)
  have HB1 := Lib.hid hb1
  clear hB1 hO1 hb1
  go_wp2_with fail
  have hp := pe_new w1 exL 3 3 rfl
  have hbw : Below w1.heap.size w1 (w1.alloc (.cells (flatE exL).toArray 38)) := (Below.refl _ w1).alloc (Nat.le_refl _) _
  have hs2 := HS1.out.below hbw
  refine (put_bag hs2.bag hp (fun _ g e hO => by cases e; exact Nat.lt_irrefl _ (HS1.out.bag.lt hO)) ex_we (by decide)).mono ?_
  rintro e w2 ⟨rfl, n', hn', hB2, hk2⟩
  rw [ex_puts] at hB2
  obtain ⟨hs3, hb3⟩ := hs2.next hB2 hk2
  have hn3 : n' ≤ 3 := hn'
  have HS3 := Lib.hid hs3
  have HB3 := Lib.hid (HB1.out.trans ((hbw.mono HB1.out.size).trans hb3))
  clear hp hbw hs2 hB2 hk2 hs3 hb3 hn'
  go_wp2_with fail
  refine (of_any HS3.out.bag (by omega) exX (by decide) 9 (by rw [ex_of]; decide)).mono ?_
  rintro e w4 ⟨v, rfl, hrow, hb4⟩
  rw [ex_of] at hrow
  obtain ⟨A4, c4, rfl⟩ := row_form2 hrow
  have hs4 := HS3.out.below hb4
  have ho4 : ∀ g, (Value.slice A4 2 c4).ownBlock = some g → w2.heap.size ≤ g := fun g e => (hrow.lt g e).1
  have HS4 := Lib.hid hs4
  have HR4 := Lib.hid (And.intro (PE.of_own hrow) ho4)
  have HB4 := Lib.hid hb4
  clear hs4 ho4 hb4 hrow
  go_wp2_with fail
  refine (cut_bag HS4.out.bag (by omega) 4 (by decide)).mono ?_
  rintro e w5 ⟨rfl, hB5, hk5⟩
  rw [ex_cut] at hB5 ⊢
  have hp5 : PE w5 (.slice A4 2 c4) [(exX, 1, 5), (exX, 2, 4)] := HR4.out.1.keep hk5 fun _ g e hg hO => by
    have := HR4.out.2 g e
    have := HS3.out.bag.lt hO
    omega
  obtain ⟨hs5, hb5⟩ := HS4.out.next hB5 hk5
  have HS5 := Lib.hid hs5
  have HR5 := Lib.hid hp5
  have HB5 := Lib.hid (HB3.out.trans ((HB4.out.mono HB3.out.size).trans hb5))
  clear hB5 hk5 hp5 hs5 hb5
  go_wp2_with fail
  refine (all_any HS5.out.bag (by omega)).mono ?_
  rintro e w6 ⟨v, rfl, hrow, hb6⟩
  obtain ⟨A6, c6, rfl⟩ := row_form2 hrow
  have hp4 := HR5.out.below hb6
  have hp6 := PE.of_own hrow
  have HB6 := Lib.hid (HB5.out.trans (hb6.mono HB5.out.size))
  obtain ⟨a4, rfl, e40, x40⟩ := PE.at3 hp4 (k := 0) (by decide)
  obtain ⟨a4', ee, _, x41⟩ := PE.at3 hp4 (k := 1) (by decide)
  obtain rfl : a4 = a4' := by cases ee; rfl
  obtain ⟨a6, rfl, e60, x60⟩ := PE.at3 hp6 (k := 0) (by decide)
  have y1 : w6.cell? ⟨a4.block, a4.off + 2, none⟩ = some (.int .i64 5) := by simpa [Addr.add, ge] using x40.2.2
  have y2 : w6.cell? ⟨a4.block, a4.off + 3 + 1, none⟩ = some (.int .i64 2) := by simpa [Addr.add, ge] using x41.2.1
  have y3 : w6.cell? ⟨a4.block, a4.off + 3 + 2, none⟩ = some (.int .i64 4) := by simpa [Addr.add, ge] using x41.2.2
  have z1 : w6.cell? a6 = some (.string ⟨#[120]⟩) := by simpa [Addr.add, ge, exX] using x60.1
  have z2 : w6.cell? ⟨a6.block, a6.off + 1, none⟩ = some (.int .i64 1) := by simpa [Addr.add, ge] using x60.2.1
  have z3 : w6.cell? ⟨a6.block, a6.off + 2, none⟩ = some (.int .i64 5) := by simpa [Addr.add, ge] using x60.2.2
  have E1 := fun W => eq38 W ⟨#[120]⟩ ⟨#[120]⟩ 1 5 1 5
  simp only [decide_true] at E1
  clear x40 x41 x60 hp4 hp6 hrow hb6
  go_wp2_with fail
  go_ret
  exact ⟨rfl, HB6.out⟩
end Go.Proofs.YtfcdgfjpmcapkaaGreat
