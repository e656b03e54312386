/- A bag in memory; walks of what a heap and a bag tell of themselves. -/
import Derived.Test.YtfcdgfjpmcapkaaGreatBL
import Derived.Test.YtfcdgfjpmcapkaaGreatHX
import Derived.Test.YtfcdgfjpmcapkaaGreatHJ
namespace Go.Proofs.YtfcdgfjpmcapkaaGreat
open Go.ChangeShapes Go.WideShapes Go.ChangeAt Go.RowKit Go.Maps
set_option linter.unusedVariables false

theorem items_any {w : World} {b : Nat} {sv : Value} {L : List It} (h : Hb w b sv L) (hl : L.length ≤ 1000000) : Calls Tryz.prog 54 #[.pointer (some ⟨b, 0, none⟩)] w (ItemsR L w) := by
  have H := Lib.hid h
  obtain ⟨c0, c1, c2⟩ := h.cells
  obtain ⟨A, c, rfl, _⟩ := row_form h.row
  clear h
  go_enter Tryz.func54, Tryz.ntmps54
  go_wp2_with fail
  refine (made_any H.out).mono ?_
  rintro e w' ⟨rfl, rfl⟩
  go_wp2_with fail
  refine (clone_any H.out.pr hl).mono ?_
  rintro e w1 ⟨v1, rfl, hrow, hb1⟩
  obtain ⟨A1, cc1, rfl, _⟩ := row_form hrow
  have hso := sort_own (n := 0) (c := 0) hrow hl
  have HROW := Lib.hid hrow
  have HB1 := Lib.hid hb1
  clear hrow hb1
  go_wp2_with fail
  refine hso.mono ?_
  rintro e w2 ⟨rfl, hrow2, hk2⟩
  have HR2 := Lib.hid hrow2
  have HK2 := Lib.hid hk2
  clear hso hrow2 hk2
  go_wp2_with fail
  go_ret
  exact ⟨.slice A1 L.length cc1, rfl, HR2.out, HB1.out.trans (HK2.out.below HB1.out.size fun k hk e => by have := (HROW.out.lt k e).1; omega)⟩

/-- a bag: its index, its heap of ends -/
structure BgI (w : World) (b mr mp hb : Nat) (sv : Value) (Ks : List (ByteArray × Nat)) (E : List En) (n : Nat) (H : List It) : Prop where
  ix : Ix w b mr mp Ks E n hb
  hp : Hb w hb sv H
  ord : Heap H
  lnk : ∀ e ∈ E, (e.1.2.2, (e.2 : Int)) ∈ H
  bak : ∀ it ∈ H, 1 ≤ it.2 ∧ it.2 ≤ n
  agr : ∀ it ∈ H, ∀ e ∈ E, it.2 = (e.2 : Int) → it.1 = e.1.2.2
  hlen : H.length ≤ n
  klen : Ks.length ≤ n

/-- what is the bag's -/
def BO (b mr mp hb : Nat) (sv : Value) (Ks : List (ByteArray × Nat)) (k : Nat) : Prop := IxO b mr mp Ks k ∨ k = hb ∨ sv.ownBlock = some k

variable {w : World} {b mr mp hb : Nat} {sv : Value} {Ks : List (ByteArray × Nat)} {E : List En} {n : Nat} {H : List It}

theorem BgI.off (h : BgI w b mr mp hb sv Ks E n H) {k : Nat} (hk : IxO b mr mp Ks k) : Off hb sv k := by
  refine ⟨?_, ?_⟩
  · rintro rfl
    exact h.ix.norow h.hp.blk (by decide) hk
  · intro e
    rcases h.hp.row.2 with ⟨rfl, _⟩ | ⟨g, cap, cur, rfl, _, hg, _⟩
    · simp [Value.ownBlock] at e
    · obtain rfl : g = k := by simpa [Value.ownBlock] using e
      exact h.ix.norow hg (by decide) hk
theorem BgI.lt (h : BgI w b mr mp hb sv Ks E n H) {k : Nat} (hk : BO b mr mp hb sv Ks k) : k < w.heap.size := by
  rcases hk with hk | rfl | hk
  · exact h.ix.lt hk
  · exact h.hp.ltb
  · exact h.hp.ltr k hk
theorem BgI.keep {w' : World} (h : BgI w b mr mp hb sv Ks E n H) {p : Nat → Prop} (hk : Keep p w w') (hp : ∀ k, BO b mr mp hb sv Ks k → p k) : BgI w' b mr mp hb sv Ks E n H :=
  { h with
    ix := h.ix.keep hk fun k hkk => hp k (.inl hkk)
    hp := h.hp.keep hk fun k _ hkk => hp k (.inr hkk) }
theorem BgI.below {w' : World} (h : BgI w b mr mp hb sv Ks E n H) (hb' : Below w.heap.size w w') : BgI w' b mr mp hb sv Ks E n H := h.keep (p := fun _ => True) (Keep.of_below hb') fun _ _ => trivial
theorem BgI.wf (h : BgI w b mr mp hb sv Ks E n H) (hn : n ≤ 1000000) {j : Nat} (hj : j < H.length) : (Lit.int .i64 (g H j).2).wf = true := by
  have := h.bak _ (g_mem hj)
  exact WalkArith.wf_i64 (by omega)
/-- the heap turns, the index lies as it lay -/
theorem BgI.turn {w' : World} {sv' : Value} {M : List It} (h : BgI w b mr mp hb sv Ks E n H) (hH : Hb w' hb sv' M) (hM : Heap M) (hk : Keep (Off hb sv) w w') (h1 : ∀ it ∈ M, it ∈ H) (h2 : ∀ e ∈ E, (e.1.2.2, (e.2 : Int)) ∈ M) (h3 : M.length ≤ H.length) : BgI w' b mr mp hb sv' Ks E n M :=
  ⟨h.ix.keep hk fun k hkk => h.off hkk, hH, hM, h2, fun it hi => h.bak it (h1 it hi), fun it hi => h.agr it (h1 it hi), Nat.le_trans h3 h.hlen, h.klen⟩

theorem live_of {e : En} (he : e ∈ E) (k : Int) : live E (k, (e.2 : Int)) = true := by
  unfold live atN
  simp only [List.find?_isSome]
  exact ⟨e, he, by simp⟩
theorem of_live {x : It} (h : live E x = true) : ∃ e ∈ E, (e.2 : Int) = x.2 := by
  unfold live atN at h
  simp only [List.find?_isSome] at h
  obtain ⟨e, he, e1⟩ := h
  exact ⟨e, he, by simpa using e1⟩

theorem info66 : ∃ j, Tryz.prog.info? 66 = some j := by
  have : (Tryz.prog.info? 66).isSome = true := by kernel_rfl
  exact Option.isSome_iff_exists.1 this
theorem same25 (w : World) (a : Addr) : (binOp .eql 25 (.pointer (some a)) (.pointer (some a))).run Tryz.prog w = .ok (.bool true) w := by
  obtain ⟨j, hj⟩ := info66
  exact run_eql_ptr_same w a Tryz.underlying25 hj
set_option maxRecDepth 100000 in
theorem made_bag (h : Ix w b mr mp Ks E n hb) : Calls Tryz.prog 31 #[.pointer (some ⟨b, 0, none⟩)] w fun e w' => e = .returned (.bool true) ∧ w' = w := by
  obtain ⟨c0, c1, c2, c3, c4, f3, f4⟩ := h.cells
  have hs := same25 w ⟨b, 0, none⟩
  clear h
  go_enter Tryz.func31, Tryz.ntmps31
  go_wp2
  go_ret
  exact ⟨rfl, rfl⟩
theorem none25 (w : World) (a : Addr) : (binOp .eql 25 (.pointer none) (.pointer (some a))).run Tryz.prog w = .ok (.bool false) w := by
  have h : ∀ d : Nat, (Op.equalIn (d + 1) 25 (.pointer none) (.pointer (some a))).run Tryz.prog w = .ok false w := fun d => by
    simp [Op.equalIn, run_underlying Tryz.underlying25]
  simp only [binOp]
  simp [Op.equal, Op.maxDepth, h 9999]
theorem madeNil_bag (w : World) : Calls Tryz.prog 31 #[.pointer none] w fun e w' => e = .returned (.bool false) ∧ w' = w := by
  go_enter Tryz.func31, Tryz.ntmps31
  go_wp2
  go_ret
  exact ⟨rfl, rfl⟩
set_option maxRecDepth 100000 in
theorem madeZero_bag {w : World} {b : Nat} (h : w.cell? ⟨b, 0, none⟩ = some (.pointer none)) : Calls Tryz.prog 31 #[.pointer (some ⟨b, 0, none⟩)] w fun e w' => e = .returned (.bool false) ∧ w' = w := by
  have he := none25 w ⟨b, 0, none⟩
  go_enter Tryz.func31, Tryz.ntmps31
  go_wp2
  go_ret
  exact ⟨rfl, rfl⟩
end Go.Proofs.YtfcdgfjpmcapkaaGreat
