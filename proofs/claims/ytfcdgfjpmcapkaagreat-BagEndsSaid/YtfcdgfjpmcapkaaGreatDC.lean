/- Walks of the reference's bag: at, End, First, Of, Cut. -/
import Derived.Test.YtfcdgfjpmcapkaaGreatDA
import Derived.Test.YtfcdgfjpmcapkaaGreatDB
import Derived.Test.YtfcdgfjpmcapkaaGreatCL
import Derived.Lib.MinMax
namespace Go.Proofs.YtfcdgfjpmcapkaaGreat
open Go.ChangeShapes Go.WideShapes Go.ChangeAt Go.RowKit Go.Maps Go.Shelf
set_option linter.unusedVariables false

/-- is there an entry at x's place that is x's? -/
def atB (S : List Et) (x : Et) : Bool := decide (posS S x < S.length) && sp (ge S (posS S x)) x
theorem at_hit {S : List Et} {x : Et} {q : Nat} (h : ∀ j, j < q → pb (ge S j) x = true) (hq : q < S.length) (hs : sp (ge S q) x = true) : posS S x = q ∧ atB S x = true := by
  have e := pos_eq S x q h (by omega) fun _ => by rw [sp_pb_left hs]; exact pb_irrefl x
  refine ⟨e, ?_⟩
  unfold atB
  rw [e, decide_eq_true hq, hs]
  rfl
theorem at_stop {S : List Et} {x : Et} {q : Nat} (h : ∀ j, j < q → pb (ge S j) x = true) (hq : q < S.length) (hs : pb x (ge S q) = true) : posS S x = q ∧ atB S x = false := by
  have e := pos_eq S x q h (by omega) fun _ => pb_asymm hs
  refine ⟨e, ?_⟩
  unfold atB
  rw [e, sp_comm, pb_sp hs]
  simp
theorem at_all {S : List Et} {x : Et} {q : Nat} (h : ∀ j, j < q → pb (ge S j) x = true) (hq : S.length = q) : posS S x = q ∧ atB S x = false := by
  have e := pos_eq S x q h (by omega) fun hx => by omega
  refine ⟨e, ?_⟩
  unfold atB
  rw [e, decide_eq_false (by omega)]
  rfl
theorem at_yes {S : List Et} {x : Et} (h : atB S x = true) : posS S x < S.length ∧ sp (ge S (posS S x)) x = true := by
  unfold atB at h
  simpa using h
theorem at_no {S : List Et} {x : Et} (h : atB S x = false) : posS S x < S.length → sp (ge S (posS S x)) x = false := fun hp => by
  unfold atB at h
  rw [decide_eq_true hp] at h
  simpa using h

theorem bLess (a b : ByteArray) : Op.bytesLess a.toList b.toList = bl a b := by
  rw [bytesLess_eq, ByteArray.toList_eq, ByteArray.toList_eq]
  rfl

theorem pe_newT (W : World) (t : Nat) (l : List Et) (cap n : Nat) (hn : n = l.length) : PE (W.alloc (.cells (flatE l).toArray t)) (.slice (some ⟨W.heap.size, 0, none⟩) n cap) l := by
  subst hn
  refine ⟨_, cap, rfl, fun _ => ⟨_, rfl, by simp, fun k hk => ?_⟩⟩
  have h := heap_alloc_new W (.cells (flatE l).toArray t)
  obtain ⟨f1, f2, f3⟩ := flatE_at l k hk
  refine ⟨?_, ?_, ?_⟩
  · rw [Addr.add_lit, cell_of_row _ _ _ _ t (0, 0) h]
    simpa using f1
  · rw [Addr.add_lit, cell_of_row _ _ _ _ t (0, 0) h]
    simpa using f2
  · rw [Addr.add_lit, cell_of_row _ _ _ _ t (0, 0) h]
    simpa using f3

set_option maxRecDepth 100000 in
set_option maxHeartbeats 1000000 in
theorem rAt_any {lo : Nat} {w : World} {rb : Nat} {v : Value} {S : List Et} (h : RB lo w rb v S) (hl : S.length ≤ 1000000) (k : ByteArray) (z : Int) :
    Calls Tryz.prog 36 #[.pointer (some ⟨rb, 0, none⟩), .string k, .int .i64 z] w fun e w' => e = .returned (.tuple #[.int .i64 ((posS S (k, z, 0) : Nat) : Int), .bool (atB S (k, z, 0))]) ∧ Below w.heap.size w w' := by
  have H := Lib.hid h
  obtain ⟨A, c, rfl, _⟩ := h.form
  obtain ⟨n, hn⟩ : ∃ n, S.length = n := ⟨_, rfl⟩
  have HN := Lib.hid hn
  rw [hn] at H hl
  obtain ⟨P, hP⟩ : ∃ P, posS S (k, z, 0) = P := ⟨_, rfl⟩
  obtain ⟨T, hT⟩ : ∃ T, atB S (k, z, 0) = T := ⟨_, rfl⟩
  have HPT := Lib.hid (And.intro hP hT)
  rw [hP, hT]
  clear h hn hP hT
  go_enter Tryz.func36, Tryz.ntmps36
  go_wp2_with fail
  go_loopw [8] (fun i wr => ∃ q : Nat, q ≤ n ∧ i = .int .i64 q ∧ (∀ j, j < q → pb (ge S j) (k, z, 0) = true) ∧ Below w.heap.size w wr) (fun i _ => n - (intOf i).toNat)
  case atStart => exact ⟨0, Nat.zero_le _, rfl, fun j hj => by omega, Below.refl _ _⟩
  case round =>
    obtain ⟨q, hq, rfl, hall, hb⟩ := hrel
    have hr := H.out.below hb
    obtain ⟨c0, c1⟩ := hr.cells
    have HB := Lib.hid hb
    have HR := Lib.hid hr
    have HALL := Lib.hid hall
    clear hb hr hall
    by_cases hlt : q < n
    · obtain ⟨ad, e1, _, x0, x1, x2⟩ := PE.at3 HR.out.pe (k := q) (by rw [HN.out]; exact hlt)
      subst e1
      obtain ⟨y, hy⟩ : ∃ y, ge S q = y := ⟨_, rfl⟩
      rw [hy] at x0 x1 x2
      have HY := Lib.hid hy
      have hbw := HB.out.alloc HB.out.size (.cells #[.string y.1, .int .i64 y.2.1, .int .i64 y.2.2] 75)
      have HBW := Lib.hid hbw
      have HQ := Lib.hid (show q < S.length by rw [HN.out]; exact hlt)
      clear hy hbw
      by_cases h1 : y.1 = k
      · have H1 := Lib.hid h1
        rw [h1] at x0
        have E1 := fun W => eqS W k k
        have E2 := fun W => gtS W k k
        simp only [decide_true, bl_irrefl] at E1 E2
        rcases Int.lt_trichotomy y.2.1 z with h2 | h2 | h2
        · have hp : pb (ge S q) (k, z, 0) = true := by rw [HY.out, pb_iff]; exact .inr ⟨H1.out, h2⟩
          have HP := Lib.hid hp
          have h3 : ¬ y.2.1 = z := by omega
          have h4 : ¬ z < y.2.1 := by omega
          clear h1 h2 hp
          go_wp2_with fail
          go_roundw
          case rel =>
            refine ⟨q + 1, by omega, by go_num, fun j hj => ?_, ?_⟩
            · by_cases hjq : j = q
              · subst hjq; exact HP.out
              · exact HALL.out j (by omega)
            · have := HBW.out
              rwa [H1.out] at this
          case measure => simp [intOf] <;> omega
        · have hp := at_hit HALL.out HQ.out (by rw [HY.out, sp_iff]; exact ⟨H1.out, h2⟩)
          obtain ⟨hp1, hp2⟩ := hp
          rw [HPT.out.1] at hp1
          rw [HPT.out.2] at hp2
          subst hp1 hp2 h2
          clear h1
          go_wp2_with fail
          refine bodyPost_ret (v := .tuple #[.int .i64 (P : Int), .bool true]) (by simp [results, Tryz.results36, go_sem]) rfl ⟨rfl, ?_⟩
          have := HBW.out
          rwa [H1.out] at this
        · have hp := at_stop HALL.out HQ.out (by rw [HY.out, pb_iff]; exact .inr ⟨H1.out.symm, h2⟩)
          obtain ⟨hp1, hp2⟩ := hp
          rw [HPT.out.1] at hp1
          rw [HPT.out.2] at hp2
          subst hp1 hp2
          have h3 : ¬ y.2.1 = z := by omega
          clear h1
          go_wp2_with fail
          refine bodyPost_ret (v := .tuple #[.int .i64 (P : Int), .bool false]) (by simp [results, Tryz.results36, go_sem]) rfl ⟨rfl, ?_⟩
          have := HBW.out
          rwa [H1.out] at this
      · have E1 : (y.1.toList == k.toList) = false := by rw [lE]; exact decide_eq_false h1
        have E2 := fun W => gtS W y.1 k
        cases h2 : bl k y.1 with
        | true =>
          have hp := at_stop HALL.out HQ.out (by rw [HY.out, pb_iff]; exact .inl h2)
          obtain ⟨hp1, hp2⟩ := hp
          rw [HPT.out.1] at hp1
          rw [HPT.out.2] at hp2
          subst hp1 hp2
          simp only [h2] at E2
          clear h1 h2
          go_wp2_with fail
          refine bodyPost_ret (v := .tuple #[.int .i64 (P : Int), .bool false]) (by simp [results, Tryz.results36, go_sem]) rfl ⟨rfl, HBW.out⟩
        | false =>
          have hp : pb (ge S q) (k, z, 0) = true := by
            rw [HY.out, pb_iff]
            rcases bl_tri y.1 k with h3 | h3 | h3
            · exact .inl h3
            · exact absurd h3 h1
            · rw [h2] at h3; cases h3
          have HP := Lib.hid hp
          have h3 : bl y.1 k = true := by
            rcases bl_tri y.1 k with h3 | h3 | h3
            · exact h3
            · exact absurd h3 h1
            · rw [h2] at h3; cases h3
          simp only [h2] at E2
          clear h1 h2 h3 hp
          go_wp2_with fail
          go_roundw
          case rel =>
            refine ⟨q + 1, by omega, by go_num, fun j hj => ?_, HBW.out⟩
            by_cases hjq : j = q
            · subst hjq; exact HP.out
            · exact HALL.out j (by omega)
          case measure => simp [intOf] <;> omega
    · obtain rfl : n = q := by omega
      obtain ⟨hp1, hp2⟩ := at_all HALL.out HN.out
      rw [HPT.out.1] at hp1
      rw [HPT.out.2] at hp2
      subst hp1 hp2
      go_wp2_with fail
      exact bodyPost_ret (v := .tuple #[.int .i64 (P : Int), .bool false]) (by simp [results, Tryz.results36, go_sem]) rfl ⟨rfl, HB.out⟩

theorem rEnd_any {lo : Nat} {w : World} {rb : Nat} {v : Value} {S : List Et} (h : RB lo w rb v S) (hs : Sd S) (hl : S.length ≤ 1000000) (k : ByteArray) (z : Int) :
    Calls Tryz.prog 21 #[.pointer (some ⟨rb, 0, none⟩), .string k, .int .i64 z] w fun e w' => e = .returned (.tuple #[.int .i64 ((fnd S k z).getD 0), .bool (fnd S k z).isSome]) ∧ Below w.heap.size w w' := by
  have H := Lib.hid h
  have hat := rAt_any h hl k z
  obtain ⟨A, c, rfl, _⟩ := h.form
  obtain ⟨P, hP⟩ : ∃ P, posS S (k, z, 0) = P := ⟨_, rfl⟩
  have HPP := Lib.hid hP
  have HSD := Lib.hid hs
  cases ha : atB S (k, z, 0) with
  | true =>
    obtain ⟨hp, hsp⟩ := at_yes ha
    have hf := pos_yes hs hp hsp
    simp only at hf
    rw [ha, hP] at hat
    rw [hP] at hf hp
    rw [hf]
    simp only [Option.getD_some, Option.isSome_some]
    obtain ⟨y, hy⟩ : ∃ y, ge S P = y := ⟨_, rfl⟩
    rw [hy]
    have HY := Lib.hid hy
    have HPL := Lib.hid hp
    obtain ⟨n, hn⟩ : ∃ n, S.length = n := ⟨_, rfl⟩
    have HN := Lib.hid hn
    rw [hn] at H hl hp
    clear h hP hs ha hsp hf hy hn
    go_enter Tryz.func21, Tryz.ntmps21
    go_wp2_with fail
    refine hat.mono ?_
    rintro e w1 ⟨rfl, hb1⟩
    have hr := H.out.below hb1
    obtain ⟨c0, c1⟩ := hr.cells
    obtain ⟨ad, e1, _, x0, x1, x2⟩ := PE.at3 hr.pe (k := P) HPL.out
    subst e1
    rw [HY.out] at x0 x1 x2
    have HB1 := Lib.hid hb1
    clear hat hr hb1
    go_wp2_with fail
    exact bodyPost_ret (v := .tuple #[.int .i64 y.2.2, .bool true]) (by simp [results, Tryz.results21, go_sem]) rfl ⟨rfl, HB1.out⟩
  | false =>
    have hf := pos_no (x := (k, z, 0)) hs (at_no ha)
    simp only at hf
    rw [ha, hP] at hat
    rw [hf]
    simp only [Option.getD_none, Option.isSome_none]
    clear h hP hs ha hf
    go_enter Tryz.func21, Tryz.ntmps21
    go_wp2_with fail
    refine hat.mono ?_
    rintro e w1 ⟨rfl, hb1⟩
    have HB1 := Lib.hid hb1
    clear hat hb1
    go_wp2_with fail
    exact bodyPost_ret (v := .tuple #[.int .i64 0, .bool false]) (by simp [results, Tryz.results21, go_sem]) rfl ⟨rfl, HB1.out⟩

/-- the least end, 0 if there is none -/
def minV (S : List Et) : Int := if 0 < S.length then minQ S S.length else 0
theorem minV_of {S : List Et} {m : Int} (h : IsMin S m) : minV S = m := by
  have hp : 0 < S.length := by
    obtain ⟨x, hx, _⟩ := h.1
    exact List.length_pos_of_mem hx
  unfold minV
  rw [if_pos hp]
  exact IsMin.uniq (minQ_min hp) h

set_option maxRecDepth 100000 in
theorem rFirst_any {lo : Nat} {w : World} {rb : Nat} {v : Value} {S : List Et} (h : RB lo w rb v S) (hl : S.length ≤ 1000000) :
    Calls Tryz.prog 19 #[.pointer (some ⟨rb, 0, none⟩)] w fun e w' => e = .returned (.tuple #[.int .i64 (minV S), .bool (decide (0 < S.length))]) ∧ w = w' := by
  have H := Lib.hid h
  obtain ⟨c0, c1⟩ := h.cells
  obtain ⟨A, c, rfl, _⟩ := h.form
  by_cases h0 : 0 < S.length
  · have hm : minV S = minQ S S.length := by unfold minV; rw [if_pos h0]
    rw [hm, decide_eq_true h0]
    obtain ⟨ad, e1, _, x0, x1, x2⟩ := PE.at3 h.pe (k := 0) h0
    subst e1
    obtain ⟨n, hn⟩ : ∃ n, S.length = n := ⟨_, rfl⟩
    have HN := Lib.hid hn
    rw [hn] at H hl h0 c0
    rw [hn]
    obtain ⟨y, hy⟩ : ∃ y, ge S 0 = y := ⟨_, rfl⟩
    rw [hy] at x0 x1 x2
    have HY := Lib.hid hy
    have h0' : ¬ (n : Int) = 0 := by omega
    have x3 : w.cell? ⟨ad.block, ad.off + 2, none⟩ = some (.int .i64 y.2.2) := by simpa [Addr.add] using x2
    clear h hm hn hy x0 x1 x2
    go_enter Tryz.func19, Tryz.ntmps19
    go_wp2_with fail
    go_loop [4, 5] (fun t i => ∃ q : Nat, q ≤ n ∧ i = .int .i64 q ∧ t = .int .i64 (minQ S q)) (fun _ i => n - (intOf i).toNat)
    case atStart => exact ⟨0, Nat.zero_le _, rfl, by rw [minQ_zero, HY.out]⟩
    case round =>
      obtain ⟨q, hq, rfl, rfl⟩ := hrel
      by_cases hlt : q < n
      · obtain ⟨ad', e1, _, z0, z1, z2⟩ := PE.at3 H.out.pe (k := q) (by rw [HN.out]; exact hlt)
        injection e1 with e1
        subst e1
        obtain ⟨u, hu⟩ : ∃ u, ge S q = u := ⟨_, rfl⟩
        rw [hu] at z0 z1 z2
        have hms := minQ_succ (S := S) (q := q) (by rw [HN.out]; exact hlt)
        rw [hu] at hms
        have HMS := Lib.hid hms
        clear hms hu
        go_wp2_with fail
        go_round
        case rel => exact ⟨q + 1, by omega, by go_num, by rw [HMS.out]⟩
        case measure => simp [intOf] <;> omega
      · obtain rfl : n = q := by omega
        go_wp2_with fail
        exact bodyPost_ret (v := .tuple #[.int .i64 (minQ S n), .bool true]) (by simp [results, Tryz.results19, go_sem]) rfl ⟨rfl, rfl⟩
  · have e : S = [] := List.eq_nil_of_length_eq_zero (by omega)
    subst e
    have hm : minV [] = 0 := by simp [minV]
    rw [hm, decide_eq_false h0]
    clear h h0
    simp only [List.length_nil] at c0
    go_enter Tryz.func19, Tryz.ntmps19
    go_wp2_with fail
    exact bodyPost_ret (v := .tuple #[.int .i64 0, .bool false]) (by simp [results, Tryz.results19, go_sem]) rfl ⟨rfl, rfl⟩

/-- a new row of the reference's entries -/
def RowT (l : List Et) (w : World) (e : Ending) (w' : World) : Prop := ∃ v, e = .returned v ∧ w'.ownsRow w.heap.size 75 3 v l.length (flatE l) ∧ Below w.heap.size w w'

set_option maxRecDepth 100000 in
set_option maxHeartbeats 1000000 in
theorem rOf_any {lo : Nat} {w : World} {rb : Nat} {v : Value} {S : List Et} (h : RB lo w rb v S) (hl : S.length ≤ 1000000) (k : ByteArray) :
    Calls Tryz.prog 26 #[.pointer (some ⟨rb, 0, none⟩), .string k] w (RowT (ofS S k) w) := by
  obtain ⟨i0, hi, hz0, hz1, hz2⟩ := info_parts info75
  have H := Lib.hid h
  obtain ⟨A, c, rfl, _⟩ := h.form
  obtain ⟨n, hn⟩ : ∃ n, S.length = n := ⟨_, rfl⟩
  have HN := Lib.hid hn
  rw [hn] at H hl
  clear h hn
  go_enter Tryz.func26, Tryz.ntmps26
  go_wp2_with fail
  go_loopw [5, 6] (fun o i wr => ∃ q : Nat, q ≤ n ∧ i = .int .i64 q ∧ wr.ownsRow w.heap.size 75 3 o (ofS (S.take q) k).length (flatE (ofS (S.take q) k)) ∧ Below w.heap.size w wr) (fun _ i _ => n - (intOf i).toNat)
  case atStart => exact ⟨0, Nat.zero_le _, rfl, World.ownsRow_nil _ _ _ _, Below.refl _ _⟩
  case round =>
    obtain ⟨q, hq, rfl, hrow, hb⟩ := hrel
    have HB := Lib.hid hb
    have hr := H.out.below hb
    obtain ⟨c0, c1⟩ := hr.cells
    have HR := Lib.hid hr
    have hbs := hb.size
    obtain ⟨Ao, co, rfl⟩ := row_form2 hrow
    have hml : (ofS (S.take q) k).length ≤ 1000000 := by
      have h1 : (ofS (S.take q) k).length ≤ (S.take q).length := List.length_filter_le _ _
      rw [List.length_take] at h1
      omega
    obtain ⟨L, hL⟩ : ∃ L, ofS (S.take q) k = L := ⟨_, rfl⟩
    rw [hL] at hrow hml
    rw [hL]
    have HLL := Lib.hid hL
    clear hr hb hL
    by_cases hlt : q < n
    · obtain ⟨ad, e1, _, x0, x1, x2⟩ := PE.at3 HR.out.pe (k := q) (by rw [HN.out]; exact hlt)
      subst e1
      obtain ⟨y, hy⟩ : ∃ y, ge S q = y := ⟨_, rfl⟩
      rw [hy] at x0 x1 x2
      have hot := of_take (S := S) (q := q) (by rw [HN.out]; exact hlt) k
      rw [hy, HLL.out] at hot
      clear hy
      by_cases h1 : y.1 = k
      · rw [if_pos h1] at hot
        have HOT := Lib.hid hot
        rw [h1] at x0
        have hyk : y = (k, y.2.1, y.2.2) := by rw [← h1]
        have HYK := Lib.hid hyk
        have hro := hrow.alloc (.cells #[.string k, .int .i64 y.2.1, .int .i64 y.2.2] 75)
        have hpn : PE (wr.alloc (.cells #[.string k, .int .i64 y.2.1, .int .i64 y.2.2] 75)) (.slice (some ⟨wr.heap.size, 0, none⟩) 1 1) [(k, y.2.1, y.2.2)] := pe_newT wr 75 [(k, y.2.1, y.2.2)] 1 1 rfl
        have HRO := Lib.hid hro
        have HPN := Lib.hid hpn
        clear h1 hot hyk hrow hro hpn
        go_wp2_with (at_builtin; refine wpList_append_pe rfl _ _ rfl (base := w.heap.size) Tryz.underlying28 hi hz0 hz1 hz2 rfl HRO.out rfl HPN.out (by simp; omega) (by simp; omega) ?_; intro v6 w6 hown6 hgrow6 _; have h6 : Below w.heap.size w w6 := (HB.out.alloc hbs _).grown hgrow6 (by simp; omega) (fun k e => (HRO.out.lt k e).1); have H6 := Lib.hid h6; have HO6 := Lib.hid hown6; clear h6 hown6 hgrow6)
        go_roundw
        case rel =>
          refine ⟨q + 1, by omega, by go_num, ?_, H6.out⟩
          rw [HOT.out, HYK.out, List.length_append, flatE_app]
          exact HO6.out
        case measure => simp [intOf] <;> omega
      · rw [if_neg h1, List.append_nil] at hot
        have HOT := Lib.hid hot
        have E1 : (y.1.toList == k.toList) = false := by rw [lE]; exact decide_eq_false h1
        have HROW := Lib.hid hrow
        clear h1 hot hrow
        go_wp2_with fail
        go_roundw
        case rel => exact ⟨q + 1, by omega, by go_num, by rw [HOT.out]; exact HROW.out, HB.out⟩
        case measure => simp [intOf] <;> omega
    · obtain rfl : n = q := by omega
      have HROW := Lib.hid hrow
      have hfin : L = ofS S k := by rw [← HLL.out, List.take_of_length_le (by rw [HN.out]; exact Nat.le_refl _)]
      have HFIN := Lib.hid hfin
      clear hfin hrow
      go_wp2_with fail
      go_ret
      exact ⟨.slice Ao L.length co, rfl, by rw [← HFIN.out]; exact HROW.out, HB.out⟩

theorem own_wider {w : World} {base b2 e sz n : Nat} {v : Value} {xs : List Value} (h : w.ownsRow base e sz v n xs) (hb : b2 ≤ base) : w.ownsRow b2 e sz v n xs := ownsRow_base h hb

set_option maxRecDepth 100000 in
set_option maxHeartbeats 1000000 in
theorem rCut_any {lo : Nat} {w : World} {rb : Nat} {v : Value} {S : List Et} (h : RB lo w rb v S) (hlo : lo ≤ w.heap.size) (hl : S.length ≤ 1000000) (d : Int) :
    Calls Tryz.prog 17 #[.pointer (some ⟨rb, 0, none⟩), .int .i64 d] w fun e w' => e = .returned (.int .i64 ((S.length : Int) - ((cutS S d).length : Int))) ∧ RTurn lo w rb v (cutS S d) w' := by
  obtain ⟨i0, hi, hz0, hz1, hz2⟩ := info_parts info75
  have H := Lib.hid h
  obtain ⟨A, c, rfl, _⟩ := h.form
  obtain ⟨n, hn⟩ : ∃ n, S.length = n := ⟨_, rfl⟩
  have HN := Lib.hid hn
  rw [hn] at H hl
  rw [hn]
  clear h hn
  go_enter Tryz.func17, Tryz.ntmps17
  go_wp2_with fail
  go_loopw [5, 6] (fun o i wr => ∃ q : Nat, q ≤ n ∧ i = .int .i64 q ∧ wr.ownsRow w.heap.size 75 3 o (cutS (S.take q) d).length (flatE (cutS (S.take q) d)) ∧ Below w.heap.size w wr) (fun _ i _ => n - (intOf i).toNat)
  case atStart => exact ⟨0, Nat.zero_le _, rfl, World.ownsRow_nil _ _ _ _, Below.refl _ _⟩
  case round =>
    obtain ⟨q, hq, rfl, hrow, hb⟩ := hrel
    have HB := Lib.hid hb
    have hr := H.out.below hb
    obtain ⟨c0, c1⟩ := hr.cells
    have HR := Lib.hid hr
    have hbs := hb.size
    obtain ⟨Ao, co, rfl⟩ := row_form2 hrow
    have hml : (cutS (S.take q) d).length ≤ q := by
      have h1 : (cutS (S.take q) d).length ≤ (S.take q).length := List.length_filter_le _ _
      rw [List.length_take] at h1
      omega
    obtain ⟨L, hL⟩ : ∃ L, cutS (S.take q) d = L := ⟨_, rfl⟩
    rw [hL] at hrow hml
    rw [hL]
    have HLL := Lib.hid hL
    clear hr hb hL
    by_cases hlt : q < n
    · obtain ⟨ad, e1, _, x0, x1, x2⟩ := PE.at3 HR.out.pe (k := q) (by rw [HN.out]; exact hlt)
      subst e1
      obtain ⟨y, hy⟩ : ∃ y, ge S q = y := ⟨_, rfl⟩
      rw [hy] at x0 x1 x2
      have hot := cut_take (S := S) (q := q) (by rw [HN.out]; exact hlt) d
      rw [hy, HLL.out] at hot
      clear hy
      by_cases h1 : d < y.2.2
      · rw [if_pos h1] at hot
        have HOT := Lib.hid hot
        have hro := hrow.alloc (.cells #[.string y.1, .int .i64 y.2.1, .int .i64 y.2.2] 75)
        have hpn : PE (wr.alloc (.cells #[.string y.1, .int .i64 y.2.1, .int .i64 y.2.2] 75)) (.slice (some ⟨wr.heap.size, 0, none⟩) 1 1) [y] := pe_newT wr 75 [y] 1 1 rfl
        have HRO := Lib.hid hro
        have HPN := Lib.hid hpn
        clear hot hrow hro hpn
        go_wp2_with (at_builtin; refine wpList_append_pe rfl _ _ rfl (base := w.heap.size) Tryz.underlying28 hi hz0 hz1 hz2 rfl HRO.out rfl HPN.out (by simp; omega) (by simp; omega) ?_; intro v6 w6 hown6 hgrow6 _; have h6 : Below w.heap.size w w6 := (HB.out.alloc hbs _).grown hgrow6 (by simp; omega) (fun k e => (HRO.out.lt k e).1); have H6 := Lib.hid h6; have HO6 := Lib.hid hown6; clear h6 hown6 hgrow6)
        go_roundw
        case rel =>
          refine ⟨q + 1, by omega, by go_num, ?_, H6.out⟩
          rw [HOT.out, List.length_append, flatE_app]
          exact HO6.out
        case measure => simp [intOf] <;> omega
      · rw [if_neg h1, List.append_nil] at hot
        have HOT := Lib.hid hot
        have HROW := Lib.hid hrow
        clear hot hrow
        go_wp2_with fail
        go_roundw
        case rel => exact ⟨q + 1, by omega, by go_num, by rw [HOT.out]; exact HROW.out, HB.out⟩
        case measure => simp [intOf] <;> omega
    · obtain rfl : n = q := by omega
      have HROW := Lib.hid hrow
      have hfin : L = cutS S d := by rw [← HLL.out, List.take_of_length_le (by rw [HN.out]; exact Nat.le_refl _)]
      have HFIN := Lib.hid hfin
      clear hfin hrow
      go_wp2_with fail
      go_ret
      refine ⟨by rw [← HFIN.out]; rfl, .slice Ao L.length co, ⟨?_, ?_, ?_, H.out.low⟩, ?_, ?_⟩
      · have := HR.out.blk
        simp [World.setCell, Array.getElem?_modify, this]
      · rw [← HFIN.out]
        have hne : ∀ g, (Value.slice Ao L.length co).ownBlock = some g → g ≠ rb := fun g e => by
          have h1 := (HROW.out.lt g e).1
          have h2 := H.out.ltb
          omega
        exact own_keep (ownsRow_base HROW.out hlo) (p := fun k => k ≠ rb) (Keep.setCell (Keep.refl _ _) _ _ fun i _ hp => hp) hne
      · intro e
        have h1 := (HROW.out.lt _ e).1
        have h2 := H.out.ltb
        omega
      · exact Keep.setCell (Keep.of_below HB.out) _ _ fun i _ hp => hp.1
      · exact fun g e => .inr (HROW.out.lt g e).1
end Go.Proofs.YtfcdgfjpmcapkaaGreat
