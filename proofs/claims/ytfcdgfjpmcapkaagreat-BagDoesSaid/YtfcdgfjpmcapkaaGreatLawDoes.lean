/-
  BagDoes answers true whatever row of deeds, key and number it is given, and leaves all that lay in memory as it lay. No conditions.
-/
import Derived.Test.YtfcdgfjpmcapkaaGreatDG
import Derived.ChangeMaps5
import Derived.Test.YtfcdgfjpmcapkaaGreatRows
import Derived.Test.YtfcdgfjpmcapkaaGreatChecked
namespace Go.Proofs.YtfcdgfjpmcapkaaGreat.bagDoes
open Go.ChangeShapes Go.WideShapes Go.ChangeAt Go.RowKit Go.Maps Go.Shelf Go.Deep Go.Joins
open Go.ChangeMaps (open_string shut_string)
set_option linter.unusedVariables false

theorem cells33 : Tryz.prog.cellsOf 33 = 5 := by kernel_rfl
theorem cells31 : Tryz.prog.cellsOf 31 = 1 := by kernel_rfl
theorem bytes33 : Tryz.prog.bytesOf 33 = 64 := by kernel_rfl
theorem read22 : Tryz.prog.readableRec 22 = true := by kernel_rfl
theorem lt22 : 22 < Tryz.prog.types.size := of_decide_eq_true (by kernel_rfl)

theorem len5 {cs : List Value} (h : cs.length = 5) : ∃ a b c d e, cs = [a, b, c, d, e] := by
  match cs, h with
  | [a, b, c, d, e], _ => exact ⟨a, b, c, d, e, rfl⟩
theorem trod_struct5 {H : Type} {enc : TypeId × Value → H} {P : Program} {w : World} {base : Nat} {spare : Nat → Bool} {held : Bool} {t : TypeId} {f0 f1 f2 f3 f4 : Field} {fuel : Nat} {cs : List Value} {x : DataW H × List MemPlace} (ht : P.underlying t = some (.struct #[f0, f1, f2, f3, f4])) (h : DataW.trod enc P w base spare held fuel t cs = some x) :
    ∃ y0 y1 y2 y3 y4 n, x = (.agg [y0.1, y1.1, y2.1, y3.1, y4.1], y0.2 ++ (y1.2 ++ (y2.2 ++ (y3.2 ++ y4.2)))) ∧ cs.length = P.cellsOf t ∧ DataW.trod enc P w base spare held n f0.type ((cs.drop f0.offset).take (P.cellsOf f0.type)) = some y0 ∧
      DataW.trod enc P w base spare held n f1.type ((cs.drop f1.offset).take (P.cellsOf f1.type)) = some y1 ∧ DataW.trod enc P w base spare held n f2.type ((cs.drop f2.offset).take (P.cellsOf f2.type)) = some y2 ∧
      DataW.trod enc P w base spare held n f3.type ((cs.drop f3.offset).take (P.cellsOf f3.type)) = some y3 ∧ DataW.trod enc P w base spare held n f4.type ((cs.drop f4.offset).take (P.cellsOf f4.type)) = some y4 := by
  obtain ⟨xs, n, _, rfl, hl, hlen, hf⟩ := DataW.trod_struct ht h
  match xs, hlen with
  | [y0, y1, y2, y3, y4], _ => exact ⟨y0, y1, y2, y3, y4, n, by simp, hl, by simpa using hf 0 f0 rfl, by simpa using hf 1 f1 rfl, by simpa using hf 2 f2 rfl, by simpa using hf 3 f3 rfl, by simpa using hf 4 f4 rfl⟩

theorem open_deed {H : Type} {enc : TypeId × Value → H} {w : World} {n : Nat} {ad : Addr} {cs : List Value} {x : DataW H × List MemPlace} (hc : w.cells? 0 ad 5 = some cs) (h : DataW.trod enc Tryz.prog w 0 (fun _ => true) true n 33 cs = some x) :
    ∃ (d : Dd) (vi : Value), w.cell? ad = some (.int .i64 d.what) ∧ w.cell? ⟨ad.block, ad.off + 1, none⟩ = some (.string d.key) ∧ w.cell? ⟨ad.block, ad.off + 2, none⟩ = some (.int .i64 d.val) ∧ w.cell? ⟨ad.block, ad.off + 3, none⟩ = some (.int .i64 d.en) ∧ w.cell? ⟨ad.block, ad.off + 4, none⟩ = some vi ∧
      PE w vi d.items ∧ ((∀ n ∈ x.1.weights Tryz.prog 33, n ≤ reachBytes) → d.items.length ≤ reachBytes ∧ Wd d) := by
  obtain ⟨y0, y1, y2, y3, y4, k, hx, hl, h0, h1, h2, h3, h4⟩ := trod_struct5 Tryz.underlying33 h
  obtain ⟨_, hlen, hcell⟩ := World.cells?_some hc
  obtain ⟨v0, v1, v2, v3, v4, rfl⟩ := len5 hlen
  have e0 := hcell 0 (by omega)
  have e1 := hcell 1 (by omega)
  have e2 := hcell 2 (by omega)
  have e3 := hcell 3 (by omega)
  have e4 := hcell 4 (by omega)
  simp only [cells3, cells9, cells31, List.drop_zero, List.drop_succ_cons, List.take_succ_cons, List.take_zero] at h0 h1 h2 h3 h4
  obtain ⟨k0, f0, _, _⟩ := DataW.trod_int Tryz.underlying3 h0
  obtain ⟨s1, f1, g1, _⟩ := DataW.trod_string Tryz.underlying9 h1
  obtain ⟨k2, f2, _, w2⟩ := DataW.trod_int Tryz.underlying3 h2
  obtain ⟨k3, f3, _, w3⟩ := DataW.trod_int Tryz.underlying3 h3
  obtain ⟨l, hp, hw⟩ := open_entries h4
  have a0 : ad.add 0 = ad := by simp [Addr.add]
  have a1 : ad.add 1 = ⟨ad.block, ad.off + 1, none⟩ := by simp [Addr.add]
  have a2 : ad.add 2 = ⟨ad.block, ad.off + 2, none⟩ := by simp [Addr.add]
  have a3 : ad.add 3 = ⟨ad.block, ad.off + 3, none⟩ := by simp [Addr.add]
  have a4 : ad.add 4 = ⟨ad.block, ad.off + 4, none⟩ := by simp [Addr.add]
  rw [a0] at e0
  rw [a1] at e1
  rw [a2] at e2
  rw [a3] at e3
  rw [a4] at e4
  refine ⟨⟨k0, s1, k2, k3, l⟩, v4, ?_, ?_, ?_, ?_, ?_, hp, fun hwt => ?_⟩
  · rw [e0]; simpa using f0
  · rw [e1]; simpa using f1
  · rw [e2]; simpa using f2
  · rw [e3]; simpa using f3
  · rw [e4]; rfl
  · have hl4 := hw fun n hn => hwt n (by
      rw [hx]
      simp only [DataW.weights, Tryz.underlying33, List.mem_append, List.map_cons, DataW.weightsEach]
      simp [DataW.weightsEach, hn])
    have hs := hwt s1.data.toList.length (by
      rw [hx]
      simp only [DataW.weights, Tryz.underlying33, List.mem_append, List.map_cons, DataW.weightsEach]
      simp [DataW.weightsEach, g1, DataW.weights])
    rw [Array.length_toList] at hs
    exact ⟨hl4.1, Nat.le_trans hs (by decide), w2, w3, hl4.2⟩

theorem open_deeds {H : Type} {enc : TypeId × Value → H} {w : World} {n : Nat} {V : Value} {x : DataW H × List MemPlace} (h : DataW.trod enc Tryz.prog w 0 (fun _ => true) true n 22 [V] = some x) :
    ∃ ds, PRD w.heap.size w V ds ∧ ((∀ n ∈ x.1.weights Tryz.prog 22, n ≤ reachBytes) → ds.length ≤ reachBytes ∧ ∀ d ∈ ds, d.items.length ≤ reachBytes ∧ Wd d) := by
  rcases open_slice Tryz.underlying22 h with ⟨hcs, hx⟩ | ⟨a, len, cap, m, n', D, Pl, hcs, _, hl, hm, hmm, hx, hi⟩
  · obtain rfl : V = .slice none 0 0 := by simpa using hcs
    exact ⟨[], ⟨none, 0, rfl, fun h => absurd h (by simp)⟩, fun _ => ⟨Nat.zero_le _, fun d hd => by cases hd⟩⟩
  · obtain rfl : V = .slice (some a) len cap := by simpa using hcs
    simp only [if_true] at hmm
    subst hmm
    rw [cells33] at hi
    haveI : Inhabited Dd := ⟨⟨0, ⟨#[]⟩, 0, 0, []⟩⟩
    obtain ⟨Lf, hLf⟩ := choose_lt (α := Dd) (p := fun i d => ∃ vi, w.cell? (a.add (i * 5)) = some (.int .i64 d.what) ∧ w.cell? ⟨(a.add (i * 5)).block, (a.add (i * 5)).off + 1, none⟩ = some (.string d.key) ∧ w.cell? ⟨(a.add (i * 5)).block, (a.add (i * 5)).off + 2, none⟩ = some (.int .i64 d.val) ∧
      w.cell? ⟨(a.add (i * 5)).block, (a.add (i * 5)).off + 3, none⟩ = some (.int .i64 d.en) ∧ w.cell? ⟨(a.add (i * 5)).block, (a.add (i * 5)).off + 4, none⟩ = some vi ∧ PE w vi d.items ∧ ((∀ n ∈ (D i).weights Tryz.prog 33, n ≤ reachBytes) → d.items.length ≤ reachBytes ∧ Wd d)) (n := len)
      (fun i hi' => by
        obtain ⟨cs', h1, h2⟩ := hi i (by omega)
        exact open_deed h1 h2)
    have hlen : ((List.range len).map Lf).length = len := by simp
    refine ⟨(List.range len).map Lf, ⟨some a, m, by rw [hlen], fun hn => ⟨a, rfl, ?_, fun k hk => ?_⟩⟩, fun hw => ⟨?_, fun d hd => ?_⟩⟩
    · rw [hlen] at hn
      obtain ⟨vi, h1, _⟩ := hLf 0 hn
      have := World.block_lt_of_cell? _ _ h1
      rwa [block_add] at this
    · rw [hlen] at hk
      obtain ⟨vi, h1, h2, h3, h4, h5, h6, _⟩ := hLf k hk
      refine ⟨vi, ?_⟩
      simp only [List.getElem_map, List.getElem_range]
      exact ⟨h1, h2, h3, h4, h5, h6, h6.lt⟩
    · have h1 := hw ((((List.range len).map D).length + ((List.range (m - len)).map fun j => D (len + j)).length) * Tryz.prog.bytesOf 33) (by rw [hx]; simp [DataW.weights, Tryz.underlying22])
      rw [bytes33] at h1
      simp at h1
      rw [hlen]
      omega
    · obtain ⟨i, hi', rfl⟩ := List.mem_map.1 hd
      rw [List.mem_range] at hi'
      obtain ⟨vi, _, _, _, _, _, _, h7⟩ := hLf i hi'
      refine h7 fun n hn => hw n ?_
      rw [hx]
      simp only [DataW.weights, Tryz.underlying22, List.mem_cons, List.mem_append]
      exact .inr (.inl (weightsAll_mem (List.mem_map.2 ⟨i, List.mem_range.2 hi', rfl⟩) hn))

/-! ### the row -/
set_option maxRecDepth 100000 in
theorem lifted (os : Os) (started : os.Started) (H : Type) (enc : TypeId × Value → H) :
    ReturnsInHanded {} Tryz.checked os 3 .any (Rows.bagDoesSpec.pre6 enc Tryz.prog Tryz.f3 Rows.bagDoesRow.domain false) (Rows.bagDoesSpec.post enc Tryz.prog Tryz.f3 false true false false) := by
  refine returnsInHanded_of_change_sized (C := Tryz.checked) own started (by kernel_rfl) Tryz.func3
    (ChangeSpec.witness6 (enc := enc) (C := Tryz.checked) false ⟨#[], #[.slice none 0 0, .string ⟨#[]⟩, .int .i64 0], []⟩ 8 (by kernel_rfl) (by kernel_rfl) (by kernel_rfl) (by kernel_rfl)) ?_
  intro W base args ds gs before hval0 hW hcnd hsz _
  have hval : ∀ (j : Nat) t v, Tryz.f3.params[j]? = some t → args[j]? = some v → Value.okWide Tryz.prog W .any base t v := hval0
  have hW' := hW
  obtain ⟨p, q, hA0, hV, rfl, hfz, hnd⟩ := hW
  have hA : DataW.TrodAll enc Tryz.prog W 0 (fun _ => true) true Tryz.f3.params.toList args.toList ds p := hA0
  rw [Tryz.params3] at hA hval
  obtain ⟨v0, vs0, d0, ds0, p0, q0, hargs, rfl, rfl, h0, r0⟩ := trodAll_cons hA
  obtain ⟨v1, vs1, d1, ds1, p1, q1, rfl, rfl, rfl, h1, r1⟩ := trodAll_cons r0
  obtain ⟨v2, vs2, d2, ds2, p2, q2, rfl, rfl, rfl, h2, r2⟩ := trodAll_cons r1
  obtain ⟨rfl, rfl, rfl⟩ := trodAll_nil r2
  obtain rfl : args = #[v0, v1, v2] := by cases args; simp_all
  obtain ⟨rfl, rfl⟩ := trodVars_none hV
  obtain ⟨a0, len, cap, rfl⟩ := okWide_slice Tryz.underlying22 (hval 0 22 v0 rfl rfl)
  obtain ⟨n1, rfl, rfl, rfl, w1⟩ := open_string Tryz.underlying9 (hval 1 9 v1 rfl rfl) h1
  obtain ⟨n2, rfl, rfl, rfl, w2⟩ := open_int Tryz.underlying3 (hval 2 3 v2 rfl rfl) h2
  obtain ⟨fuel, hf⟩ := h0
  obtain ⟨dds, hprd, hs0⟩ := open_deeds (by simpa [Value.cells] using hf)
  have hw0 : ∀ n ∈ d0.weights Tryz.prog 22, n ≤ reachBytes := fun n hn => by
    have h1 := List.all_eq_true.1 hsz n (DataW.weights_mem_each (j := 0) (t := 22) rfl rfl n hn)
    simpa using h1
  have hr := reachBytes_lt
  obtain ⟨hl1, hl2⟩ := hs0 hw0
  have hlt : ∀ x ∈ p0 ++ [], x.block < W.heap.size := fun x hx => hW'.lt x (by simpa using hx)
  refine (does_any hprd (fun d hd => (hl2 d hd).2) w1 w2 (by omega) (fun d hd => by have := (hl2 d hd).1; omega)).mono fun e W' ⟨he, hg⟩ => ?_
  subst he
  exact ⟨_, rfl, post_read hW' (fun _ _ _ => (trodAll_cons_mk (shut_bool Tryz.underlying4 _) trodAll_mk0))
    (trodAll_cons_mk (Below.trod laidB read22 lt22 ⟨fuel, hf⟩ hg (fun x hx => hlt x (by simpa using hx))) (trodAll_cons_mk (shut_string Tryz.underlying9 w1) (trodAll_cons_mk (shut_int Tryz.underlying3 w2) trodAll_mk0))) rfl (by simp) hg⟩

theorem over : Rows.bagDoesRow.holds Tryz.pinned (OpenSpec.ofChange Rows.bagDoesSpec) :=
  OpenClaim.holds_of_wide 3 Tryz.f3 rfl rfl rfl rfl rfl rfl rfl ⟨rfl, rfl, rfl, rfl, rfl⟩ rfl rfl rfl rfl rfl (by kernel_rfl) Tryz.func3 (by kernel_rfl)
    (of_decide_eq_true (by kernel_rfl)) (by unfold Func.isWrapper; first | (rw [if_pos (by decide +kernel)]; kernel_rfl) | (rw [if_neg (by decide +kernel)]; exact ⟨rfl, rfl⟩))
    (fun os started H enc _ => lifted os started H enc)

/-- the statement -/
theorem proved : Rows.BagDoesSaid :=
  over
#print axioms proved
end Go.Proofs.YtfcdgfjpmcapkaaGreat.bagDoes
