/- Walk of BagDoes. -/
import Derived.Test.YtfcdgfjpmcapkaaGreatDF
import Derived.Deep.RegionHeld3
namespace Go.Proofs.YtfcdgfjpmcapkaaGreat
open Go.ChangeShapes Go.WideShapes Go.ChangeAt Go.RowKit Go.Maps Go.Shelf
set_option linter.unusedVariables false

attribute [local go_sem] Oper.semAt_some

/-- both bags with the same entries, so many at most -/
def DI (w : World) (b rb t : Nat) (W : World) : Prop := ∃ O n S v, DX w b O n S rb v S W ∧ n ≤ t ∧ S.length ≤ t

theorem below_between {B : Nat} {a b c : World} (h : Below B a b) (k : Below B a c) (hs : b.heap.size ≤ c.heap.size) : Below B b c :=
  ⟨k.os.trans h.os.symm, k.tape.trans h.tape.symm, k.output.trans h.output.symm, hs, fun i hi => (k.block i hi).trans (h.block i hi).symm⟩

set_option maxRecDepth 100000 in
set_option maxHeartbeats 4000000 in
theorem does_any {w : World} {v : Value} {ds : List Dd} {key : ByteArray} {val : Int} (hd : PRD w.heap.size w v ds) (hwd : ∀ d ∈ ds, Wd d) (hk : key.size ≤ maxLen) (hvw : (Lit.int .i64 val).wf = true)
    (hdl : ds.length ≤ 281474976710656) (hdi : ∀ d ∈ ds, d.items.length ≤ 281474976710656) : Calls Tryz.prog 3 #[v, .string key, .int .i64 val] w (Tr w) := by
  obtain ⟨i0, hi, hz0, hz1, hz2⟩ := info_parts info38
  have HD := Lib.hid hd
  have HWD := Lib.hid hwd
  have HKS := Lib.hid hk
  have HVW := Lib.hid hvw
  have hsize := size_any hd hdl hdi
  have hszb := szf_bd ds ds.length hdi
  have hszt := szf_tot ds ds.length
  obtain ⟨A, c, rfl, _⟩ := hd
  obtain ⟨sz, hsz⟩ : ∃ sz, szf ds.length ds = sz := ⟨_, rfl⟩
  rw [hsz] at hsize hszb hszt
  obtain ⟨m, hm⟩ : ∃ m, ds.length = m := ⟨_, rfl⟩
  rw [hm] at hdl hszb hszt hsize HD
  rw [hm]
  have HM := Lib.hid hm
  have HSZT := Lib.hid hszt
  have hszc : (sz : Int) ≤ 1000000000000000 := by omega
  clear hsz hm hdi hszb hszt hwd hk hvw
  by_cases hbig : 400 < sz
  · have hbig' : (400 : Int) < (sz : Int) := by omega
    go_enter Tryz.func3, Tryz.ntmps3
    go_wp2_with fail
    refine hsize.mono ?_
    rintro e w1 ⟨rfl, rfl⟩
    clear hsize
    go_wp2_with fail
    refine (awake_any _).mono ?_
    rintro e w1 ⟨rfl, hb1⟩
    have HB1 := Lib.hid hb1
    clear hb1
    go_wp2_with fail
    go_ret
    exact ⟨rfl, HB1.out⟩
  · have hbig' : ¬ (400 : Int) < (sz : Int) := by omega
    have hsm : m + tot ds ≤ 400 := by have := HSZT.out (by omega); omega
    have HSM := Lib.hid hsm
    have hm4 : m ≤ 400 := by omega
    clear hsm hbig
    go_enter Tryz.func3, Tryz.ntmps3
    go_wp2_with fail
    refine hsize.mono ?_
    rintro e w1 ⟨rfl, rfl⟩
    clear hsize
    go_wp2_with fail
    refine (new_bag _).mono ?_
    rintro e w1 ⟨b, O1, rfl, hB1, hO1, hb1⟩
    have hs1 := Bs.of_made hB1 hO1 hb1
    have hbw : Below w1.heap.size w1 (w1.alloc (.cells #[.slice none 0 0] 30)) := (Below.refl _ w1).alloc (Nat.le_refl _) _
    have hdx : DX w b O1 0 [] w1.heap.size (.slice none 0 0) [] (w1.alloc (.cells #[.slice none 0 0] 30)) :=
      ⟨hb1.trans (hbw.mono hb1.size), hs1.below hbw, RB.new hb1.size, fun ho => Nat.lt_irrefl _ (hB1.lt ho), fun g e => by simp [Value.ownBlock] at e⟩
    have HDI0 := Lib.hid (show DI w b w1.heap.size (tot (ds.take 0)) (w1.alloc (.cells #[.slice none 0 0] 30)) from ⟨_, _, _, _, hdx, Nat.zero_le _, Nat.zero_le _⟩)
    clear hB1 hO1 hb1 hs1 hbw hdx
    go_wp2_with fail
    obtain ⟨rb, hrb⟩ : ∃ rb, w1.heap.size = rb := ⟨_, rfl⟩
    obtain ⟨W0, hW0⟩ : ∃ W0, w1.alloc (.cells #[.slice none 0 0] 30) = W0 := ⟨_, rfl⟩
    rw [hrb, hW0] at HDI0
    rw [hW0]
    try rw [hrb]
    clear hrb hW0
    go_loopw [9] (fun i wr => ∃ q : Nat, q ≤ m ∧ i = .int .i64 q ∧ DI w b rb (tot (ds.take q)) wr) (fun i _ => m - (intOf i).toNat)
    case atStart => exact ⟨0, Nat.zero_le _, rfl, HDI0.out⟩
    case round =>
      obtain ⟨q, hq, rfl, O, n, S, vr, hdx, hnt, hSt⟩ := hrel
      have HDX := Lib.hid hdx
      clear hdx
      by_cases hlt : q < m
      · have hqd : q < ds.length := by rw [HM.out]; exact hlt
        have htot : tot (ds.take (q + 1)) ≤ 400 := by have := tot_take_le ds (q + 1); have := HSM.out; omega
        have htq := tot_take_succ hqd
        have hwq := HWD.out ds[q] (List.getElem_mem hqd)
        obtain ⟨ad, vi, e1, hadl, d0, d1, d2, d3, d4, hpi, hoi⟩ := (HD.out.below HDX.out.be (Nat.le_refl _)).at hqd
        subst e1
        obtain ⟨D, hD⟩ : ∃ D, ds[q] = D := ⟨_, rfl⟩
        rw [hD] at d0 d1 d2 d3 hpi hoi htq hwq
        have hpi2 := hpi
        obtain ⟨Ai, ci, ei, _⟩ := hpi2
        subst ei
        have hbx := heap_alloc_new wr (.cells #[.int .i64 D.what, .string D.key, .int .i64 D.val, .int .i64 D.en, .slice Ai D.items.length ci] 33)
        have hbw : Below wr.heap.size wr (wr.alloc (.cells #[.int .i64 D.what, .string D.key, .int .i64 D.val, .int .i64 D.en, .slice Ai D.items.length ci] 33)) := (Below.refl _ wr).alloc (Nat.le_refl _) _
        have hxx : DXX w wr.heap.size D (.slice Ai D.items.length ci) b O n S rb vr S (wr.alloc (.cells #[.int .i64 D.what, .string D.key, .int .i64 D.val, .int .i64 D.en, .slice Ai D.items.length ci] 33)) :=
          ⟨HDX.out.below hbw, hbx, fun ho => Nat.lt_irrefl _ (HDX.out.bs.bag.lt ho), fun e => by have := HDX.out.rr.ltb; omega, fun e => Nat.lt_irrefl _ (HDX.out.rr.row.lt _ e).2⟩
        have hprD : PE (wr.alloc (.cells #[.int .i64 D.what, .string D.key, .int .i64 D.val, .int .i64 D.en, .slice Ai D.items.length ci] 33)) (.slice Ai D.items.length ci) D.items := hpi.below hbw
        have HXX := Lib.hid hxx
        have HPRD := Lib.hid hprD
        have HOI := Lib.hid hoi
        have HTQ := Lib.hid htq
        have HWQ := Lib.hid hwq
        clear hbx hbw hxx hprD hpi hD htq hwq hoi
        go_upto_region 8 with (fail)
        have hpick := pick_any D.what 3 (wr.alloc (.cells #[.int .i64 D.what, .string D.key, .int .i64 D.val, .int .i64 D.en, .slice Ai D.items.length ci] 33)) (by omega) (by omega)
        obtain ⟨pk, hpk⟩ : ∃ pk, D.what % 3 = pk := ⟨_, rfl⟩
        have hp1 : 0 ≤ pk := by omega
        have hp2 : pk < 3 := by omega
        rw [hpk] at hpick
        clear hpk
        go_upto_block 2 with (go_at_call 10; refine hpick.mono ?_; rintro e w9 ⟨rfl, rfl⟩)
        clear hpick d0 d1 d2 d3 d4
        obtain ⟨X, hX⟩ : ∃ X, wr.heap.size = X := ⟨_, rfl⟩
        obtain ⟨W, hW⟩ : ∃ W, wr.alloc (.cells #[.int .i64 D.what, .string D.key, .int .i64 D.val, .int .i64 D.en, .slice Ai D.items.length ci] 33) = W := ⟨_, rfl⟩
        rw [hX] at HXX ⊢
        rw [hW] at HXX HPRD ⊢
        clear hX hW
        go_cut [11, 12] from 41 to 175 (fun _ _ wc => ∃ O n S v, DXX w X D (.slice Ai D.items.length ci) b O n S rb v S wc ∧ n ≤ tot (ds.take (q + 1)) ∧ S.length ≤ tot (ds.take (q + 1)))
        case rest =>
          obtain ⟨O, n, S, v, hx, hn, hS⟩ := hcut
          have HX := Lib.hid hx
          have HSL := Lib.hid (And.intro hn hS)
          have hn4 : n ≤ 1000000 := by omega
          have hS4 : S.length ≤ 400 := by omega
          have hsd := hx.d.bs.bag.sd
          have HSD := Lib.hid hsd
          obtain ⟨mv, hmv⟩ : ∃ mv, minV S = mv := ⟨_, rfl⟩
          obtain ⟨fb, hfb⟩ : ∃ fb, decide (0 < S.length) = fb := ⟨_, rfl⟩
          obtain ⟨ev, hev⟩ : ∃ ev, (fnd S key val).getD 0 = ev := ⟨_, rfl⟩
          obtain ⟨eb, heb⟩ : ∃ eb, (fnd S key val).isSome = eb := ⟨_, rfl⟩
          have HV := Lib.hid (And.intro (And.intro hmv hfb) (And.intro hev heb))
          have hof : ∀ k : ByteArray, ((ofS S k).length : Int) ≤ 400 := fun k => by have h1 : (ofS S k).length ≤ S.length := List.length_filter_le _ _; omega
          have HOFL := Lib.hid hof
          have HKD := Lib.hid (show D.key.size ≤ maxLen by have := HWQ.out.1; unfold maxLen; omega)
          have c1 : Calls Tryz.prog 18 #[.pointer (some ⟨b, 0, none⟩)] wc fun e w' => e = .returned (.tuple #[.int .i64 mv, .bool fb]) ∧ Below wc.heap.size wc w' := (first_bag hx.d.bs.bag hn4).mono fun e w' h => by
            have := fir_is h
            rwa [hmv, hfb] at this
          have C1 := Lib.hid c1
          clear hx hn hS hsd hmv hfb hev heb hof c1
          go_wp2_with fail
          refine C1.out.mono ?_
          rintro e w1 ⟨rfl, hb1⟩
          have HX := Lib.hid (HX.out.below hb1)
          clear hb1
          go_wp2_with fail
          have c2 := rFirst_any HX.out.d.rr (by omega)
          rw [HV.out.1.1, HV.out.1.2] at c2
          refine c2.mono ?_
          rintro e w2 ⟨rfl, rfl⟩
          clear c2
          go_wp2_with fail
          have c3 := end_bag HX.out.d.bs.bag key val HKS.out HVW.out
          rw [HV.out.2.1, HV.out.2.2] at c3
          refine c3.mono ?_
          rintro e w3 ⟨rfl, hb3⟩
          have HX := Lib.hid (HX.out.below hb3)
          clear c3 hb3
          go_wp2_with fail
          have c4 := rEnd_any HX.out.d.rr HSD.out (by omega) key val
          rw [HV.out.2.1, HV.out.2.2] at c4
          refine c4.mono ?_
          rintro e w4 ⟨rfl, hb4⟩
          have HX := Lib.hid (HX.out.below hb4)
          clear c4 hb4
          obtain ⟨Av, cv, rfl, _⟩ := HX.out.d.rr.form
          have HX := Lib.hid (HX.out.below (Below.refl _ w4).drew)
          go_upto_region 28 with (fail)
          go_region_held3 (fun w' => w'.cell? ⟨rb, 0, none⟩ = some (.slice Av S.length cv) ∧ w'.cell? ⟨X, 1, none⟩ = some (.string D.key))
            (first | exact ⟨HX.out.d.rr.cells.1, HX.out.cells.2.1⟩ | (go_keep; done))
            (first
              | (go_at_call 22; refine (len_bag HX.out.d.bs.bag).mono ?_; rintro e w5 ⟨rfl, hw5⟩; have hx5 : DXX w X D _ b O n S rb (.slice Av S.length cv) S w5 := (by rw [hw5]; exact HX.out); have HX := Lib.hid hx5; clear hx5 hw5)
              | (go_at_call 24; refine (all_any HX.out.d.bs.bag hn4).mono ?_; rintro e w5 ⟨v5, rfl, hrow5, hb5⟩; have HX := Lib.hid (HX.out.below hb5); have HA := Lib.hid (PE.of_own hrow5); clear hb5 hrow5)
              | (go_at_call 23; refine (same_any (by first | exact HOA.out | exact HA.out) (by first | exact HOB.out | exact HX.out.d.rr.pe) (by have h9 := HOFL.out key; have h8 := HOFL.out D.key; omega)).mono ?_; rintro e w5 ⟨rfl, hb5⟩; have HX := Lib.hid (HX.out.below hb5); clear hb5)
              | (go_at_call 25; refine (of_any HX.out.d.bs.bag hn4 _ (by first | exact HKS.out | exact HKD.out) 400 (HOFL.out _)).mono ?_; rintro e w5 ⟨v5, rfl, hrow5, hb5⟩; have HX := Lib.hid (HX.out.below hb5); have HOA := Lib.hid (PE.of_own hrow5); (try have HOB := Lib.hid (HOB.out.below hb5)); clear hb5 hrow5)
              | (go_at_call 26; refine (rOf_any HX.out.d.rr (by omega) _).mono ?_; rintro e w5 ⟨v5, rfl, hrow5, hb5⟩; have HX := Lib.hid (HX.out.below hb5); have HOB := Lib.hid (PE.of_own hrow5); (try have HOA := Lib.hid (HOA.out.below hb5)); clear hb5 hrow5))
          all_goals
            go_wp2_with fail
            go_roundw
            case rel =>
              have hdi : DI w b rb (tot (ds.take (q + 1))) _ := ⟨_, _, _, _, HX.out.d, HSL.out.1, HSL.out.2⟩
              first
                | exact ⟨q + 1, by omega, by go_num, hdi⟩
                | ((repeat apply Exists.intro); exact ⟨⟨q + 1, by omega, by go_num, hdi⟩, rfl⟩)
            case measure => simp [intOf] <;> omega
        case first =>
          obtain ⟨x0, x1, x2, x3, x4⟩ := HXX.out.cells
          have hXl : X < W.heap.size := HXX.out.lx
          have hsd := HXX.out.d.bs.bag.sd
          have HSD := Lib.hid hsd
          have hWw := HXX.out.d.be.size
          have hn4 : n + D.items.length ≤ 400 := by have := HTQ.out; omega
          have hS4 : S.length + D.items.length ≤ 400 := by have := HTQ.out; omega
          have htq : tot (ds.take q) + D.items.length = tot (ds.take (q + 1)) := HTQ.out.symm
          clear hsd
          rcases (by omega : pk = 0 ∨ pk = 1 ∨ pk = 2) with rfl | rfl | rfl
          · have hal : Below W.heap.size W (W.alloc (.cells #[] 38)) := (Below.refl _ W).alloc (Nat.le_refl _) _
            have hro : (W.alloc (.cells #[] 38)).ownsRow W.heap.size 38 3 (.slice (some ⟨W.heap.size, 0, none⟩) 0 0) 0 [] := World.ownsRow_lit W #[] 0 (Nat.le_refl _) (by unfold maxLen; omega) rfl
            have hpr := HPRD.out.below hal
            have HAL := Lib.hid hal
            clear hal
            go_wp2_with (at_builtin; refine wpList_append_pe rfl _ _ rfl (base := W.heap.size) Tryz.underlying31 hi hz0 hz1 hz2 (v := .slice (some ⟨W.heap.size, 0, none⟩) 0 0) rfl hro (v2 := .slice Ai D.items.length ci) rfl hpr (by omega) (by simp) ?_; intro v10 w1 hown hgrow _; have hb1 : Below W.heap.size W w1 := HAL.out.grown hgrow HAL.out.size (fun k e => by cases e; exact Nat.le_refl _); have HB1 := Lib.hid hb1; have HOWN := Lib.hid hown; clear hb1 hown hgrow; have hown : w1.ownsRow W.heap.size 38 3 v10 D.items.length (flatE D.items) := (by simpa using HOWN.out); have HOWN := Lib.hid hown; obtain ⟨A10, c10, rfl⟩ := row_form2 hown; clear hown)
            have hx1 := HXX.out.below HB1.out
            have hg10 : ∀ g, (Value.slice A10 D.items.length c10).ownBlock = some g → W.heap.size ≤ g ∧ g < w1.heap.size := fun g hg => HOWN.out.lt g hg
            have hput := put_bag hx1.d.bs.bag (PE.of_own HOWN.out) (fun _ g hg ho => by have := (hg10 g hg).1; have := HXX.out.d.bs.bag.lt ho; omega) HWQ.out.2.2.2 (by omega)
            have HX1 := Lib.hid hx1
            have HG10 := Lib.hid hg10
            clear hx1 hg10 hro hpr x0 x1 x2 x3 x4
            refine hput.mono ?_
            rintro e w2 ⟨rfl, n', hn', hB2, hk2⟩
            clear hput
            have hx2 := HX1.out.bturn hB2 hk2
            have hrow2 := own_keep HOWN.out hk2 fun g hg ho => by have := (HG10.out g hg).1; have := HXX.out.d.bs.bag.lt ho; omega
            have hw12 := hk2.size
            obtain ⟨M10, hM10⟩ : ∃ M10, D.items.length = M10 := ⟨_, rfl⟩
            have HM10 := Lib.hid hM10
            have hnl : (D.items).length = M10 := hM10
            obtain ⟨A11, c11, hform⟩ := row_form hrow2
            have hA11 : A11 = A10 ∧ c11 = c10 := by injection hform.1 with h1 h2 h3; exact ⟨h1.symm, h3.symm⟩
            obtain ⟨rfl, rfl⟩ := hA11
            have hf := hform.2.1
            rw [hM10] at hrow2 hf hn' hn4 hS4 htq
            rw [hM10] at HG10 ⊢
            have HX2 := Lib.hid hx2
            have HROW2 := Lib.hid hrow2
            have HN' := Lib.hid hn'
            have hm4 : M10 ≤ 400 := by omega
            clear hB2 hk2 hx2 hrow2 hM10 hnl hform hn'
            go_wp2_with fail
            go_loopw [12] (fun i wz => ∃ r : Nat, r ≤ M10 ∧ i = .int .i64 r ∧ ∃ l' : List Et, l'.length = M10 ∧ wz.ownsRow W.heap.size 38 3 (.slice A11 M10 c11) M10 (flatE l') ∧ Keep (fun k => (Value.slice A11 M10 c11).ownBlock ≠ some k) w2 wz) (fun i _ => M10 - (intOf i).toNat)
            case atStart => exact ⟨0, Nat.zero_le _, rfl, D.items, HM10.out, HROW2.out, Keep.refl _ _⟩
            case round =>
              obtain ⟨r, hr, rfl, l', hl', hrow, hk⟩ := hrel
              by_cases hlr : r < M10
              · obtain ⟨gg, rfl, _⟩ := hf (by omega)
                obtain ⟨y0, y1, y2⟩ := row_at3 hrow (k := r) (by omega)
                have z0 := own_loose hrow (r * 3)
                have z1 := own_loose hrow (r * 3 + 1)
                have z2 := own_loose hrow (r * 3 + 2)
                have HR := Lib.hid (own_set3 hrow (k := r) (by omega) (⟨#[111, 118, 101, 114]⟩, 7, 7))
                have HK := Lib.hid hk
                have HL := Lib.hid hl'
                clear hrow hk hl' hf
                go_wp2_with fail
                go_roundw
                case rel =>
                  refine ⟨r + 1, by omega, by go_num, l'.set r (⟨#[111, 118, 101, 114]⟩, 7, 7), by rw [List.length_set]; exact HL.out, HR.out, ?_⟩
                  exact Keep.setCell (Keep.setCell (Keep.setCell HK.out _ _ fun i _ hp e => hp (by rw [e]; rfl)) _ _ fun i _ hp e => hp (by rw [e]; rfl)) _ _ fun i _ hp e => hp (by rw [e]; rfl)
                case measure => simp [intOf] <;> omega
              · obtain rfl : M10 = r := by omega
                have hx3 := HX2.out.keep hk (fun k hk' e => by have := (HG10.out k e).1; omega) (fun k ho e => by
                  have h1 := HG10.out k e
                  rcases ho with ho | ho
                  · have := HXX.out.d.bs.bag.lt ho; omega
                  · omega) (fun e => by have := (HG10.out rb e).1; have := HXX.out.d.rr.ltb; omega) (fun g hg e => by have := (HG10.out g e).1; have := (HXX.out.d.rr.row.lt g hg).2; omega) (fun e => by have := (HG10.out X e).1; omega)
                obtain ⟨x0, x1, x2, x3, x4⟩ := hx3.cells
                have hpi3 : PE wr (.slice Ai D.items.length ci) D.items := HPRD.out.keep (Keep.of_belowN (below_between HXX.out.d.be hx3.d.be (Nat.le_trans HB1.out.size (Nat.le_trans hw12 hk.size)))) fun h1 g hg _ => HOI.out h1 g hg
                have HX3 := Lib.hid hx3
                have HPI3 := Lib.hid hpi3
                rw [HM10.out] at x4 HPI3
                clear hrow hk hx3 hpi3 hf hl'
                go_wp2_with fail
                refine (theirs_any HPI3.out (by have := HM10.out; omega)).mono ?_
                rintro e w4 ⟨v64, rfl, hrow4, hb4⟩
                have hx4 := HX3.out.below hb4
                have HX4 := Lib.hid hx4
                have HROW4 := Lib.hid hrow4
                have hg4 : ∀ g, v64.ownBlock = some g → wr.heap.size ≤ g ∧ g < w4.heap.size := fun g hg => hrow4.lt g hg
                have HG4 := Lib.hid hg4
                clear hx4 hrow4 hg4 hb4
                go_wp2_with fail
                refine (rPut_any HX4.out.d.rr HSD.out HX4.out.d.be.size (PE.of_own HROW4.out) (fun _ g hg => ⟨fun e => by have := (HG4.out g hg).1; have := HX3.out.d.rr.ltb; omega, fun e => by have := (HG4.out g hg).1; have := (HX3.out.d.rr.row.lt g e).2; omega⟩) (fun _ g hg => (HG4.out g hg).2) (by have := HM10.out; omega)).mono ?_
                rintro e w5 ⟨rfl, ht5⟩
                obtain ⟨v5, hx5⟩ := HX4.out.rturn ht5
                have HX5 := Lib.hid hx5
                have hpl := puts_len D.items S
                have HPL := Lib.hid hpl
                clear ht5 hx5 hpl
                go_wp2_with fail
                rw [← HM10.out]
                go_meet
                case rel => exact ⟨_, _, _, _, HX5.out, by have := HN'.out; omega, by have := HPL.out; have := HM10.out; omega⟩
          · obtain ⟨is, his⟩ : ∃ is, (fnd S D.key D.val).isSome = is := ⟨_, rfl⟩
            have HIS := Lib.hid his
            have hdl : (dropS S D.key D.val).length ≤ S.length := oth_len _ _
            have HDL := Lib.hid hdl
            have HKD := Lib.hid (show D.key.size ≤ maxLen by have := HWQ.out.1; unfold maxLen; omega)
            have HX := Lib.hid (HXX.out.below (Below.refl _ W).drew)
            clear his hdl x0 x1 x2 x3 x4
            go_upto_region 19 with (fail)
            go_region_held3 (fun w' => w'.cell? ⟨X, 1, none⟩ = some (.string D.key) ∧ w'.cell? ⟨X, 2, none⟩ = some (.int .i64 D.val))
              (first | exact ⟨HX.out.cells.2.1, HX.out.cells.2.2.1⟩ | (go_keep; done))
              (first
                | (go_at_call 14; refine (drop_bag HX.out.d.bs.bag (by omega) D.key D.val HKD.out HWQ.out.2.1).mono ?_; rintro e w5 ⟨he, hB5, hk5⟩; rw [HIS.out] at he; subst he; have HX := Lib.hid (HX.out.bturn hB5 hk5); clear hB5 hk5)
                | (go_at_call 15; refine (rDrop_any HX.out.d.rr HSD.out HX.out.d.be.size (by omega) D.key D.val).mono ?_; rintro e w5 ⟨he, ht5⟩; rw [HIS.out] at he; subst he; obtain ⟨v5, hx5⟩ := HX.out.rturn ht5; have HX := Lib.hid hx5; clear ht5 hx5))
            all_goals
              go_wp2_with fail
              go_meet
              case rel => exact ⟨_, _, _, _, HX.out, by omega, by have := HDL.out; omega⟩
          · have hdl : (cutS S D.en).length ≤ S.length := len_cut_drop _ _
            have HDL := Lib.hid hdl
            have HX := Lib.hid (HXX.out.below (Below.refl _ W).drew)
            clear hdl x0 x1 x2 x3 x4
            go_upto_region 22 with (fail)
            go_region_held3 (fun w' => w'.cell? ⟨X, 3, none⟩ = some (.int .i64 D.en))
              (first | exact HX.out.cells.2.2.2.1 | (go_keep; done))
              (first
                | (go_at_call 16; refine (cut_bag HX.out.d.bs.bag (by omega) D.en HWQ.out.2.2.1).mono ?_; rintro e w5 ⟨rfl, hB5, hk5⟩; have HX := Lib.hid (HX.out.bturn hB5 hk5); clear hB5 hk5)
                | (go_at_call 17; refine (rCut_any HX.out.d.rr HX.out.d.be.size (by omega) D.en).mono ?_; rintro e w5 ⟨rfl, ht5⟩; obtain ⟨v5, hx5⟩ := HX.out.rturn ht5; have HX := Lib.hid hx5; clear ht5 hx5))
            all_goals
              go_wp2_with fail
              go_meet
              case rel => exact ⟨_, _, _, _, HX.out, by omega, by have := HDL.out; omega⟩
      · obtain rfl : m = q := by omega
        go_wp2_with fail
        refine (awake_any _).mono ?_
        rintro e w9 ⟨rfl, hb9⟩
        have HB9 := Lib.hid hb9
        clear hb9
        go_wp2_with fail
        go_ret
        exact ⟨rfl, HDX.out.be.trans (HB9.out.mono HDX.out.be.size)⟩
end Go.Proofs.YtfcdgfjpmcapkaaGreat
