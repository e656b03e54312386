/- Walk: the library's DeleteFunc at a row of ends. -/
import Derived.Test.YtfcdgfjpmcapkaaGreatBK
namespace Go.Proofs.YtfcdgfjpmcapkaaGreat
open Go.ChangeShapes Go.WideShapes Go.ChangeAt Go.RowKit Go.Maps
set_option linter.unusedVariables false

variable {w : World} {b mr mp : Nat} {Ks : List (ByteArray × Nat)} {E : List En} {n hb : Nat}

theorem own_block {base e sz m c gg : Nat} {xs : List Value} (h : w.ownsRow base e sz (.slice (some ⟨gg, 0, none⟩) m c) m xs) : ∃ cur, w.heap[gg]? = some (.cells cur e (0, 0)) ∧ base ≤ gg ∧ m ≤ c ∧ c ≤ maxLen ∧ cur.size = c * sz ∧ cur.toList.take (m * sz) = xs := by
  obtain ⟨_, cap, cur, e1, hb, hg, h1, h2, h3, h4⟩ := h.2.resolve_left (by simp)
  injection e1 with e2 e3 e4
  injection e2 with e2
  injection e2 with e2
  subst e2; subst e4
  exact ⟨cur, hg, hb, h1, h2, h3, h4⟩
theorem Ix.norow (h : Ix w b mr mp Ks E n hb) {gg : Nat} {cur : Array Value} {t : TypeId} {fr : Nat × Nat} (hg : w.heap[gg]? = some (.cells cur t fr)) (ht : t ≠ 66) : ¬ IxO b mr mp Ks gg := by
  have hm : ∀ j, (∃ es cl, w.heap[j]? = some (.map es cl)) → gg ≠ j := by
    rintro j ⟨es, cl, hj⟩ rfl
    rw [hj] at hg
    cases hg
  rintro (rfl | rfl | rfl | ⟨p, hp, rfl⟩)
  · rw [h.blk] at hg
    cases hg
    exact ht rfl
  · exact hm _ h.rows.isMap rfl
  · exact hm _ h.places.isMap rfl
  · exact hm _ (h.row p hp).isMap rfl

theorem zero74 (w : World) : (zeroValue 74).run Tryz.prog w = .ok (.agg #[.int .i64 0, .int .i64 0]) w := by kernel_rfl
theorem zeros_all (m : Nat) : ∀ u ∈ (Builtin.zeroCells (Value.agg #[.int .i64 0, .int .i64 0]).cells m).toList, u.oneCell' = true := by
  intro u hu
  simp only [Builtin.zeroCells, Value.cells, Array.toList_map, List.mem_map] at hu
  obtain ⟨i, _, rfl⟩ := hu
  have h2 : ∀ j, j < 2 → ((#[Value.int .i64 0, .int .i64 0] : Array Value)[j]!).oneCell' = true := by
    intro j hj
    rcases j with _ | _ | j
    · rfl
    · rfl
    · omega
  exact h2 _ (Nat.mod_lt _ (by decide))
theorem zeros_len (m : Nat) : (Builtin.zeroCells (Value.agg #[.int .i64 0, .int .i64 0]).cells m).toList.length = m * 2 := by simp [Builtin.zeroCells, Value.cells]

theorem clear_row {base m c gg i : Nat} {M : List It} (h : w.ownsRow base 74 2 (.slice (some ⟨gg, 0, none⟩) m c) m (flat M)) (hi : i < m) :
    ∃ w', (∀ ty, (Builtin.clear_ #[99] ty #[.slice (some ⟨gg, i * 2, none⟩) (m - i) (c - i)]).run Tryz.prog w = .ok (.tuple #[]) w') ∧ w'.ownsRow base 74 2 (.slice (some ⟨gg, 0, none⟩) i c) i (flat (M.take i)) ∧ Keep (fun k => k ≠ gg) w w' := by
  obtain ⟨cur, hg, hb, h1, h2, h3, h4⟩ := own_block h
  have hz := zeros_len (m - i)
  have hone := zeros_all (m - i)
  have hst := fun (zs : List Value) hl ho => run_storeCells_at (P := Tryz.prog) gg (i * 2) 74 zs 0 cur w hg hl ho
  obtain ⟨zs, hzs⟩ : ∃ zs, (Builtin.zeroCells (Value.agg #[.int .i64 0, .int .i64 0]).cells (m - i)).toList = zs := ⟨_, rfl⟩
  rw [hzs] at hz hone
  have hst2 := hst zs (by rw [hz]; omega) hone
  refine ⟨w.setRow gg (cur.toList.take (i * 2 + 0) ++ zs ++ cur.toList.drop (i * 2 + 0 + zs.length)).toArray, fun ty => ?_, ?_, ?_⟩
  · obtain ⟨q, hq⟩ : ∃ q, m - i = q + 1 := ⟨m - i - 1, by omega⟩
    rw [hq] at hzs ⊢
    simp only [Builtin.clear_]
    simp [run_underlying Tryz.underlying99, zero74, hzs, hst2, Result.andThen]
  · have hl : (flat (M.take i)).length = i * 2 := by
      have := h.1
      rw [flat_len] at this
      rw [flat_len, List.length_take]
      omega
    refine ⟨hl, .inr ⟨gg, c, _, rfl, hb, setRow_heap w gg cur _ 74 (0, 0) hg, by omega, h2, ?_, ?_⟩⟩
    · simp [hz, h3]
      omega
    · rw [flat_take, ← h4, List.take_take]
      simp only [Nat.add_zero, List.append_assoc]
      rw [List.take_append_of_le_length (by simp [h3]; omega), List.take_take]
      congr 1
      omega
  · exact ⟨rfl, rfl, rfl, by simp [World.setRow], fun k _ hk => setRow_other _ _ _ _ hk⟩

theorem local0 {w w3 : World} {u v : Value} {t : TypeId} (h : Below (w.alloc (.cells #[u, v] t)).heap.size (w.alloc (.cells #[u, v] t)) w3) :
    w3.heap[w.heap.size]? = some (.cells #[u, v] t (0, 0)) ∧ w.heap.size < w3.heap.size ∧ w3.cell? ⟨w.heap.size, 0, none⟩ = some u ∧ w3.cell? ⟨w.heap.size, 1, none⟩ = some v ∧ w3.frozen? ⟨w.heap.size, 0, none⟩ = false ∧ w3.frozen? ⟨w.heap.size, 1, none⟩ = false := by
  have x : w3.heap[w.heap.size]? = some (.cells #[u, v] t (0, 0)) := (h.block w.heap.size (by simp)).trans (heap_alloc_new w _)
  exact ⟨x, (Array.getElem?_eq_some_iff.1 x).1, cell_of_row _ _ 0 _ t (0, 0) x, cell_of_row _ _ 1 _ t (0, 0) x, frozen_of_row x 0, frozen_of_row x 1⟩
theorem below_alloc0 {w w3 : World} {o : Obj} (h : Below (w.alloc o).heap.size (w.alloc o) w3) : Below w.heap.size w w3 := ((Below.refl _ w).alloc (Nat.le_refl _) o).trans (h.mono (by simp))
theorem own_frozen {base e sz m c gg : Nat} {xs : List Value} (h : w.ownsRow base e sz (.slice (some ⟨gg, 0, none⟩) m c) m xs) (k : Nat) : w.frozen? ⟨gg, k, none⟩ = false := by
  obtain ⟨cur, hg, _⟩ := own_block h
  exact frozen_of_row hg k
theorem take_set_succ {M : List It} {i : Nat} (x : It) (h : i < M.length) : (M.set i x).take (i + 1) = M.take i ++ [x] := by
  rw [List.take_succ_eq_append_getElem (by simpa using h), List.take_set_of_le (Nat.le_refl _)]
  simp

def DelR (base : Nat) (E : List En) (L : List It) (v : Value) (w : World) (e : Ending) (w' : World) : Prop :=
  ∃ v', e = .returned v' ∧ w'.ownsRow base 74 2 v' (L.filter (live E)).length (flat (L.filter (live E))) ∧ Keep (fun k => v.ownBlock ≠ some k) w w'

theorem g_mem' {L : List It} {x : It} (h : x ∈ L) : ∃ j, j < L.length ∧ g L j = x := by
  obtain ⟨j, hj, rfl⟩ := List.getElem_of_mem h
  exact ⟨j, hj, g_get hj⟩
theorem take_live {E : List En} {L : List It} {i : Nat} (hi : i ≤ L.length) (h : ∀ j, j < i → live E (g L j) = true) : (L.take i).filter (live E) = L.take i := by
  rw [List.filter_eq_self]
  intro x hx
  obtain ⟨j, hj, rfl⟩ := List.getElem_of_mem hx
  rw [List.getElem_take]
  have hj' : j < i := by simp at hj; omega
  have := h j hj'
  rw [g_get (by omega)] at this
  exact this

set_option maxRecDepth 100000 in
set_option maxHeartbeats 2000000 in
theorem delete_bag (h : Ix w b mr mp Ks E n hb) {base : Nat} {v : Value} {L : List It} (hr : w.ownsRow base 74 2 v L.length (flat L)) (hw : ∀ j, j < L.length → (Lit.int .i64 (g L j).2).wf = true) (hl : L.length ≤ 1000000) :
    Calls Tryz.prog 53 #[v, .func (.func 50) #[.pointer (some ⟨b, 0, none⟩)] #[]] w (DelR base E L v w) := by
  have H := Lib.hid h
  have HI := Lib.hid (index_bag h hr hw hl)
  obtain ⟨m, hm⟩ : ∃ m, L.length = m := ⟨_, rfl⟩
  have HL := Lib.hid hm
  rw [hm] at hr hl
  have HR := Lib.hid hr
  have HW := Lib.hid hw
  obtain ⟨A, c, rfl, hf, hmc, hcm⟩ := row_form hr
  clear h hr hm hw
  go_enter Tryz.func53, Tryz.ntmps53
  go_upto_region 2 with (go_at_call 71; refine HI.out.mono ?_; rintro e w1 ⟨r, rfl, hb1, hcase⟩; have HB1 := Lib.hid hb1; have HC := Lib.hid hcase; clear hb1 hcase)
  rcases HC.out with ⟨rfl, hall⟩ | ⟨i0, hi0, rfl, hdead, hbef⟩
  · have HALL := Lib.hid hall
    clear hall
    go_wp2_with fail
    go_ret
    have e1 : L.filter (live E) = L := by
      have := take_live (E := E) (L := L) (i := L.length) (Nat.le_refl _) HALL.out
      rwa [List.take_length] at this
    refine ⟨_, rfl, ?_, Keep.of_below HB1.out⟩
    rw [e1, HL.out]
    exact own_below HR.out HB1.out
  · rw [HL.out] at hi0
    have hne : ((i0 : Int) == -1) = false := by rw [beq_eq_false_iff_ne]; omega
    have HD := Lib.hid hdead
    have HBEF := Lib.hid hbef
    obtain ⟨gg, rfl, hbg, hgl⟩ := hf (by omega)
    have hno : ¬ IxO b mr mp Ks gg := by
      obtain ⟨cur, hg, _⟩ := own_block HR.out
      exact H.out.norow hg (by decide)
    have HNO := Lib.hid hno
    clear hdead hbef hf hno
    go_upto_region 4 with (fail)
    go_wp2_with fail
    go_loopw [5, 6] (fun p q wr => ∃ (i j : Nat) (M : List It), i ≤ j ∧ j ≤ m ∧ p = .int .i64 i ∧ q = .int .i64 j ∧ M.length = m ∧ M.take i = (L.take j).filter (live E) ∧ M.drop j = L.drop j ∧ wr.ownsRow base 74 2 (.slice (some ⟨gg, 0, none⟩) m c) m (flat M) ∧ Keep (fun k => k ≠ gg) w wr) (fun _ q _ => m - (intOf q).toNat)
    case atStart =>
      refine ⟨i0, i0 + 1, L, by omega, by omega, rfl, by go_num, HL.out, ?_, rfl, own_below HR.out HB1.out, Keep.of_below HB1.out⟩
      rw [List.take_succ_eq_append_getElem (by rw [HL.out]; exact hi0), List.filter_append, take_live (by rw [HL.out]; omega) HBEF.out]
      have := HD.out
      rw [g_get (by rw [HL.out]; exact hi0)] at this
      simp [this]
    case round =>
      obtain ⟨i, j, M, hij, hj, rfl, rfl, hM, ht, hd, hrow, hk⟩ := hrel
      have HM := Lib.hid hM
      have HT := Lib.hid ht
      have HDD := Lib.hid hd
      have HROW := Lib.hid hrow
      have HK := Lib.hid hk
      clear hM ht hd hk
      by_cases hlt : j < m
      · have hgj : g M j = g L j := by
          have h1 : M[j]? = L[j]? := by
            have := congrArg (fun l => l[0]?) HDD.out
            simpa using this
          unfold g
          rw [h1]
        obtain ⟨x1, x2⟩ := row_at hrow (k := j) (by rw [HM.out]; exact hlt)
        have hcall : ∀ W, Below wr.heap.size wr W → _ := fun W hW => gone_bag ((H.out.keep HK.out fun k hk e => HNO.out (e ▸ hk)).below hW) (g L j) (HW.out j (by rw [HL.out]; exact hlt))
        obtain ⟨x, hx⟩ : ∃ x, g L j = x := ⟨_, rfl⟩
        rw [hgj, hx] at x1 x2
        rw [hx] at hcall
        have HX := Lib.hid hx
        clear hrow hgj hx
        have hij' : (i : Int) < m := by omega
        cases hlv : live E x with
        | true =>
          rw [hlv] at hcall
          have HCALL := Lib.hid hcall
          have HLV := Lib.hid hlv
          clear hcall hlv
          go_wp2_with (go_at_call 50; refine (HCALL.out _ ((Below.refl _ _).alloc (Nat.le_refl _) _)).mono ?_; simp only [Bool.not_true]; rintro e w2 ⟨rfl, hb2⟩; obtain ⟨x5, hl5, k0, k1, -, -⟩ := local0 hb2; have hrow2 := own_below HROW.out (below_alloc0 hb2); obtain ⟨y1, y2⟩ := row_at hrow2 (k := i) (by rw [HM.out]; omega); have z1 := own_frozen hrow2 (i * 2); have z2 := own_frozen hrow2 (i * 2 + 1); have HROW2 := Lib.hid hrow2; have HB2 := Lib.hid (below_alloc0 hb2); clear hb2 x5 hrow2)
          go_roundw
          case rel =>
            have h5 := own_set HROW2.out (k := i) (by rw [HM.out]; omega) x
            refine ⟨i + 1, j + 1, M.set i x, by omega, by omega, by go_num, by go_num, by rw [List.length_set]; exact HM.out, ?_, ?_, h5, ?_⟩
            · rw [take_set_succ x (by rw [HM.out]; omega), HT.out, List.take_succ_eq_append_getElem (by rw [HL.out]; omega), List.filter_append]
              have h6 := HX.out
              rw [g_get (by rw [HL.out]; exact hlt)] at h6
              rw [h6]
              simp [HLV.out]
            · rw [List.drop_set_of_lt (by omega), ← List.drop_drop, HDD.out, List.drop_drop]
            · exact ((HK.out.trans (Keep.of_below HB2.out (p := fun k => k ≠ gg)) fun _ _ h => h).setCell _ _ fun _ _ h => h).setCell _ _ fun _ _ h => h
          case measure => simp [intOf] <;> omega
        | false =>
          rw [hlv] at hcall
          have HCALL := Lib.hid hcall
          have HLV := Lib.hid hlv
          clear hcall hlv
          go_wp2_with (go_at_call 50; refine (HCALL.out _ ((Below.refl _ _).alloc (Nat.le_refl _) _)).mono ?_; simp only [Bool.not_false]; rintro e w2 ⟨rfl, hb2⟩; have HB2 := Lib.hid (below_alloc0 hb2); clear hb2)
          go_roundw
          case rel =>
            refine ⟨i, j + 1, M, by omega, by omega, rfl, by go_num, HM.out, ?_, ?_, own_below HROW.out HB2.out, HK.out.trans (Keep.of_below HB2.out) fun _ _ h => h⟩
            · rw [HT.out, List.take_succ_eq_append_getElem (by rw [HL.out]; omega), List.filter_append]
              have h6 := HX.out
              rw [g_get (by rw [HL.out]; exact hlt)] at h6
              rw [h6]
              simp [HLV.out]
            · rw [← List.drop_drop, HDD.out, List.drop_drop]
          case measure => simp [intOf] <;> omega
      · obtain rfl : m = j := by omega
        have hti : L.take m = L := List.take_of_length_le (by rw [HL.out]; exact Nat.le_refl _)
        have hfl : M.take i = L.filter (live E) := by rw [HT.out, hti]
        have hil : i = (L.filter (live E)).length := by
          rw [← hfl, List.length_take, HM.out]
          omega
        have HFL := Lib.hid hfl
        have HIL := Lib.hid hil
        clear hti hfl hil
        by_cases him : i < m
        · obtain ⟨w9, hcl, hrow9, hk9⟩ := clear_row hrow him
          have hci : (c = i) = False := by simp; omega
          have HROW9 := Lib.hid hrow9
          have HK9 := Lib.hid hk9
          have hslm : ((i : Int) ≤ m) := by omega
          clear hrow hrow9 hk9
          go_wp2_with fail
          go_ret
          refine ⟨_, rfl, ?_, (HK.out.trans HK9.out fun _ _ h => h).mono fun k _ h e => h (by rw [e]; rfl)⟩
          have h9 := HROW9.out
          rw [HFL.out] at h9
          rw [← HIL.out]
          exact h9
        · obtain rfl : m = i := by omega
          have hcl : ∀ ty A q, (Builtin.clear_ #[99] ty #[.slice A 0 q]).run Tryz.prog wr = .ok (.tuple #[]) wr := fun ty A q => by
            cases A <;> simp [Builtin.clear_, run_underlying Tryz.underlying99, Result.andThen]
          have hfin : wr.ownsRow base 74 2 (.slice (some ⟨gg, 0, none⟩) m c) (L.filter (live E)).length (flat (L.filter (live E))) := by
            rw [← HIL.out, ← HFL.out, List.take_of_length_le (by rw [HM.out]; exact Nat.le_refl _)]
            exact hrow
          have HFIN := Lib.hid hfin
          clear hrow hfin
          by_cases hcm2 : c = m
          · have HCM2 := Lib.hid hcm2
            have hcm3 : (c = m) = True := by simp [hcm2]
            clear hcm2
            go_wp2_with fail
            go_ret
            exact ⟨_, rfl, HFIN.out, HK.out.mono fun k _ h e => h (by rw [e]; rfl)⟩
          · have hcm3 : (c = m) = False := by simp [hcm2]
            clear hcm2
            go_wp2_with fail
            go_ret
            exact ⟨_, rfl, HFIN.out, HK.out.mono fun k _ h e => h (by rw [e]; rfl)⟩
end Go.Proofs.YtfcdgfjpmcapkaaGreat
