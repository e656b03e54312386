/- Walk of the law on any rows: a book beside the reference's. -/
import Derived.Test.YtepelfigcoohiaaW
import Derived.Deep.RegionWith
namespace Go.Proofs.Ytepelfigcoohiaa
open Go.ChangeShapes Go.WideShapes Go.ChangeAt Go.RowKit Go.Maps Go.Shelf
set_option linter.unusedVariables false

theorem own_keep {w w' : World} {base e n : Nat} {v : Value} {xs : List Value} (h : w.ownsRow base e 1 v n xs) {p : Nat → Prop} (hk : Keep p w w') (hp : ∀ g, v.ownBlock = some g → p g) : w'.ownsRow base e 1 v n xs := by
  refine ⟨h.1, ?_⟩
  rcases h.2 with hn | ⟨g, cap, cur, e, hbg, hg, rest⟩
  · exact .inl hn
  · have hlt := (Array.getElem?_eq_some_iff.1 hg).1
    exact .inr ⟨g, cap, cur, e, hbg, (hk.block g hlt (hp g (by rw [e]; rfl))).trans hg, rest⟩
theorem Own.keep {n0 : Nat} {w w' : World} {b m : Nat} {sv : Value} {L : List ByteArray} (h : Own n0 w b m sv L) {p : Nat → Prop} (hk : Keep p w w') (hp : ∀ k, k < w.heap.size → (k = b ∨ k = m ∨ sv.ownBlock = some k) → p k) : Own n0 w' b m sv L := ⟨h.bk.keep hk hp, h.hb, h.hm, h.hs⟩
theorem Own.keep_ne {n0 : Nat} {w w' : World} {b m x : Nat} {sv : Value} {L : List ByteArray} (h : Own n0 w b m sv L) (hk : Keep (fun k => k ≠ x) w w') (hx : Off b m sv x) : Own n0 w' b m sv L :=
  h.keep hk fun k _ hh => by
    rintro rfl
    rcases hh with rfl | rfl | hh
    · exact hx.1 rfl
    · exact hx.2.1 rfl
    · exact hx.2.2 hh
theorem RB.base {n0 n1 : Nat} {w : World} {r : Nat} {sv : Value} {L : List ByteArray} (h : RB n0 w r sv L) (hn : n1 ≤ n0) : RB n1 w r sv L := ⟨h.blk, ownsRow_base h.row hn⟩

theorem own_blk {w : World} {base e g n c : Nat} {xs : List Value} (h : w.ownsRow base e 1 (.slice (some ⟨g, 0, none⟩) n c) n xs) : ∃ cur, w.heap[g]? = some (.cells cur e (0, 0)) ∧ cur.size = c ∧ n ≤ c ∧ c ≤ maxLen := by
  rcases h.2 with ⟨e0, _⟩ | ⟨g', cap, cur, e0, _, hh, h1, h2, h3, _⟩
  · cases e0
  · injection e0 with e1 e2 e3
    injection e1 with e1
    injection e1 with e1
    subst e1
    subst e3
    exact ⟨cur, hh, by simpa using h3, h1, h2⟩

/-- a lent row reads as the row -/
theorem lent_sr {w : World} {base g c : Nat} {l M : List ByteArray} {n : Nat} (h : w.ownsRow base 9 1 (.slice (some ⟨g, 0, none⟩) n c) n ((l ++ M).map Value.string)) : SR w (.slice (some ⟨g, 0, none⟩) l.length c) l := by
  refine ⟨_, _, rfl, fun hn => ⟨_, rfl, (h.lt g rfl).2, fun k hk => ?_⟩⟩
  exact h.cells (g := g) rfl k (.string l[k]) (by rw [List.getElem?_map, List.getElem?_append_left hk, List.getElem?_eq_getElem hk]; rfl)

theorem endS_next {w w1 w2 : World} {r : Nat} {v : Value} (h : w1.cell? ⟨r, 0, none⟩ = some v ∧ Below w.heap.size w w1) (hr : r < w.heap.size) (hb : Below w1.heap.size w1 w2) : w2.cell? ⟨r, 0, none⟩ = some v ∧ Below w.heap.size w w2 :=
  ⟨(hb.cell (p := ⟨r, 0, none⟩) (Nat.lt_of_lt_of_le hr h.2.size)).trans h.1, h.2.trans (hb.mono h.2.size)⟩
/-- what stands at the head of each row's round -/
structure BooksI (N : Nat) (w : World) (b m r : Nat) (ls : List (List ByteArray)) (k : Nat) (wr : World) : Prop where
  own : ∃ sv svr L, Own N wr b m sv L ∧ RB N wr r svr L ∧ Off b m sv r ∧ (∀ g, svr.ownBlock = some g → Off b m sv g) ∧ L.length ≤ ((ls.take k).map List.length).sum
  bel : Below N w wr
  rn : N ≤ r

set_option maxRecDepth 100000 in
set_option maxHeartbeats 4000000 in
theorem books_any {w : World} {v : Value} {ls : List (List ByteArray)} {s : ByteArray} {n : Int} (h : RR w.heap.size w v ls) (hl : ls.length ≤ 281474976710656) (hls : ∀ l ∈ ls, l.length ≤ 281474976710656 ∧ ∀ s ∈ l, s.size ≤ 140737488355328) (hs : s.size ≤ maxLen) :
    Calls Try.prog 4 #[v, .string s, .int .i64 n] w fun e w' => e = .returned (.bool true) ∧ Below w.heap.size w w' := by
  have HR := Lib.hid h
  have HLS := Lib.hid hls
  have HSZ := Lib.hid hs
  clear h hls hs
  go_enter Try.func4, Try.ntmps4
  go_wp2_with fail
  refine (size_any HR.out hl (fun l hl => (HLS.out l hl).1)).mono ?_
  rintro e w' ⟨z, rfl, rfl, hn0, hn4⟩
  have HN4 := Lib.hid hn4
  clear hn4
  by_cases hbig : 400 < z
  · go_wp2_with (go_at_call 10; refine (awake_any _).mono ?_; rintro e w1 ⟨rfl, hb1⟩)
    go_ret
    exact ⟨rfl, hb1⟩
  · have hle : z ≤ 400 := by omega
    have HT := Lib.hid (HN4.out.1 hle)
    clear hbig
    go_wp2_with fail
    refine (new_any _).mono ?_
    rintro e w1 ⟨b, m, rfl, hbk, h1, h2, hb1⟩
    have HB1 := Lib.hid hb1
    have hz1 := hb1.size
    have HO1 := Lib.hid (⟨hbk, h1, h2, fun g e => by simp [Value.ownBlock] at e⟩ : Own w.heap.size w1 b m _ [])
    clear hb1 hbk h1 h2
    go_wp2_with fail
    refine (rNew_any _).mono ?_
    rintro e w2 ⟨r, rfl, hr1, hrb, hb2⟩
    have HB2 := Lib.hid (HB1.out.trans (hb2.mono hz1))
    have HI := Lib.hid (⟨⟨_, _, [], HO1.out.below hb2, hrb.base hz1, HO1.out.bk.off hr1, fun g e => by simp [Value.ownBlock] at e, Nat.zero_le _⟩, HB2.out, by omega⟩ : BooksI w.heap.size w b m r ls 0 w2)
    clear hr1 hrb hb2
    obtain ⟨A, c, rfl, _⟩ := HR.out
    go_wp2_with fail
    go_loopw [9] (fun i wr => ∃ k : Nat, k ≤ ls.length ∧ i = .int .i64 k ∧ BooksI w.heap.size w b m r ls k wr) (fun i _ => ls.length - (intOf i).toNat)
    case atStart => exact ⟨0, Nat.zero_le _, rfl, HI.out⟩
    case round =>
      obtain ⟨k, hk, rfl, ⟨sv, svr, L, hown, hrb, hor, hosr, hLlen⟩, hbel, hrn⟩ := hrel
      have HOWN := Lib.hid hown
      have HRB := Lib.hid hrb
      have HOR := Lib.hid hor
      have HOSR := Lib.hid hosr
      have HLL := Lib.hid hLlen
      have HBEL := Lib.hid hbel
      have hzr := hbel.size
      have hrlt := hrb.lt
      clear hown hrb hor hosr hLlen hbel
      by_cases hlt : k < ls.length
      · obtain ⟨A', c', hA, hr⟩ := HR.out.below HBEL.out
        injection hA with hA1 hA2 hA3
        subst hA1
        subst hA3
        obtain ⟨ad, rfl, hg, hc⟩ := hr (by omega)
        obtain ⟨rv, hck, hsr, hrv⟩ := hc k hlt
        have hlk := HLS.out ls[k] (List.getElem_mem _)
        have hsum := sum_take ls k hlt
        have hsum2 := sum_take_le ls (k + 1)
        obtain ⟨l, hlE⟩ : ∃ l, ls[k] = l := ⟨_, rfl⟩
        rw [hlE] at hsr hlk hsum hrv
        have hll : L.length + l.length ≤ ((ls.take (k + 1)).map List.length).sum := by have := HLL.out; omega
        have h400 : L.length + l.length ≤ 400 := by have := HT.out; unfold tot at this; omega
        have HSR := Lib.hid hsr
        have HRV := Lib.hid hrv
        have HLK := Lib.hid hlk.2
        have HLSUM := Lib.hid hll
        have HCK := Lib.hid hck
        have hfit : L.length + (fr L l).length ≤ 65536 := by have := fr_length L l; omega
        have HFIT := Lib.hid hfit
        have hbl := book_len L l
        clear hc hr hsum hsum2 hlE hll hsr hrv hlk hfit
        go_wp2_with fail
        refine (lent_any rv l _ HSR.out (by omega)).mono ?_
        rintro e w3 ⟨g, cg, rfl, hrow3, hb3⟩
        have hz3 := hb3.size
        have hgr := hrow3.lt g rfl
        have HIN := Lib.hid hrow3
        have HB3 := Lib.hid (HBEL.out.trans (hb3.mono hzr))
        have HBr3 := Lib.hid (hb3.mono hzr)
        have HO3 := Lib.hid (HOWN.out.below hb3)
        have HRB3 := Lib.hid (HRB.out.below hb3)
        have HOG := Lib.hid (HOWN.out.bk.off hgr.1)
        have hck3 := (HB3.out.cell (p := ad.add k) (by rw [block_add]; exact hg)).trans ((HBEL.out.cell (p := ad.add k) (by rw [block_add]; exact hg)).symm.trans HCK.out)
        have HCK3 := Lib.hid hck3
        clear hrow3 hb3 hck hck3
        go_wp2_with fail
        refine (of_yes HO3.out (by omega) _ l (lent_sr HIN.out) (fun _ g' e => by simp [Value.ownBlock] at e; subst e; exact HOG.out) HLK.out (by omega) HFIT.out).mono ?_
        rintro e w4 ⟨xv, sv4, rfl, hrow4, hown4, hb4, hloc4, hk4⟩
        have hz4 := hk4.size
        have HB4 := Lib.hid (HB3.out.trans hb4)
        have HBr4 := Lib.hid (HBr3.out.trans hb4)
        have HXR := Lib.hid hrow4
        have HO4 := Lib.hid hown4
        have HOX := Lib.hid (hown4.bk.off_row hrow4)
        have HIN4 := Lib.hid (own_keep HIN.out hk4 (fun g' e => by simp [Value.ownBlock] at e; subst e; exact HOG.out))
        have HRB4 := Lib.hid (HRB3.out.keep hk4 HOR.out HOSR.out)
        have HOG4 := Lib.hid (loc_off hloc4 HOG.out hgr.2)
        have HOR4 := Lib.hid (loc_off hloc4 HOR.out (by omega))
        have hck4 := (HB4.out.cell (p := ad.add k) (by rw [block_add]; exact hg)).trans ((HB3.out.cell (p := ad.add k) (by rw [block_add]; exact hg)).symm.trans HCK3.out)
        clear hrow4 hown4 hb4 hloc4 hk4
        go_wp2_with fail
        refine (rOf_yes HRB4.out rv l (HSR.out.keep2 (Keep.of_belowN HBr4.out) HRV.out) (by omega) HFIT.out).mono ?_
        rintro e w5 ⟨yv, svr5, rfl, hrow5, hrb5, hk5⟩
        have hz5 := hk5.size
        have hN4 : w.heap.size ≤ w4.heap.size := by omega
        have hb5 := hk5.below hN4 (fun k hk => by omega)
        have HB5 := Lib.hid (HB4.out.trans hb5)
        have HBr5 := Lib.hid (HBr4.out.trans hb5)
        have HIN5 := Lib.hid (own_keep HIN4.out hk5 (fun g' e => by simp [Value.ownBlock] at e; subst e; omega))
        have HX5 := Lib.hid (own_keep HXR.out hk5 (fun g' e => by have := (HXR.out.lt g' e).1; omega))
        have HO5 := Lib.hid (HO4.out.keep_ne hk5 HOR4.out)
        have HRB5 := Lib.hid (hrb5.base hN4)
        have HOS5 := Lib.hid (fun g' e => HO4.out.bk.off (hrb5.row.lt g' e).1)
        have HSB5 := Lib.hid (fun g' e => (hrb5.row.lt g' e).1)
        have HY5 := Lib.hid hrow5
        have hck5 := (hb5.cell (p := ad.add k) (by rw [block_add]; exact hg)).trans hck4
        clear hrow5 hrb5 hk5 hb5 hck4
        go_wp2_with fail
        refine (find_any HO5.out.bk s HSZ.out).mono ?_
        rintro e w' ⟨rfl, rfl⟩
        obtain ⟨fn, hfn⟩ : ∃ fn : Int, (numOf (bookL L l) s : Int) = fn := ⟨_, rfl⟩
        obtain ⟨fb, hfb⟩ : ∃ fb : Bool, decide (s ∈ bookL L l) = fb := ⟨_, rfl⟩
        have HFN := Lib.hid hfn
        have HFB := Lib.hid hfb
        rw [hfn, hfb]
        clear hfn hfb
        go_wp2_with fail
        refine (rFind_any HRB5.out s (by omega)).mono ?_
        rintro e w' ⟨rfl, rfl⟩
        rw [HFN.out, HFB.out]
        go_wp2_with fail
        obtain ⟨p, hp⟩ : ∃ p, textOf (bookL L l) n = p := ⟨_, rfl⟩
        have HP := Lib.hid hp
        clear hp
        obtain ⟨tt, tb⟩ := p
        refine (text_any HO5.out.bk n).mono ?_
        rintro e w' htx
        rw [HP.out] at htx
        obtain ⟨rfl, rfl⟩ := htx
        go_wp2_with fail
        refine (rText_any HRB5.out n).mono ?_
        rintro e w' htx
        rw [HP.out] at htx
        obtain ⟨rfl, rfl⟩ := htx
        obtain ⟨cr0, fr0⟩ := HRB5.out.cells
        obtain ⟨Ar, cr, rfl, _⟩ := HRB5.out.sr
        go_wp2_with fail
        have kr := cell_regrown cr0
        have kc := cell_regrown hck5
        have hlt0 : (0 : Int) ≤ (k : Int) := by omega
        have hlti : (k : Int) < (ls.length : Int) := by omega
        have cI : ∀ d os, Calls Try.prog 21 #[xv, yv] (Sort.grow (redrawn w5 d) os) fun e w'' => e = .returned (.bool true) ∧ ∃ p : Regrown, w'' = Sort.grow (redrawn w5 p.d) p.os := fun d os => Calls.regrown_of ((sameI_any xv yv (numsL L l) (numsL L l) _ ((IR.of_own HX5.out).below (below_regrown w5 d os)) ((IR.of_own HY5.out).below (below_regrown w5 d os)) (by rw [nums_len]; omega)).mono fun e w' h => ⟨h.1.trans (by rw [decide_eq_true rfl]), h.2⟩)
        have cL : ∀ d os, Calls Try.prog 22 #[.pointer (some ⟨b, 0, none⟩)] (Sort.grow (redrawn w5 d) os) fun e w'' => e = .returned (.int .i64 ((bookL L l).length : Int)) ∧ ∃ p : Regrown, w'' = Sort.grow (redrawn w5 p.d) p.os := fun d os => Calls.regrown_of ((len_any (HO5.out.bk.below (below_regrown w5 d os))).mono fun e w' h => ⟨h.1, by rw [← h.2]; exact Below.refl _ _⟩)
        have cK : ∀ d os, Calls Try.prog 23 #[.slice (some ⟨g, 0, none⟩) l.length cg, rv] (Sort.grow (redrawn w5 d) os) fun e w'' => e = .returned (.bool true) ∧ ∃ p : Regrown, w'' = Sort.grow (redrawn w5 p.d) p.os := fun d os => Calls.regrown_of (kept_any l rv (own_keep HIN5.out (Keep.of_below (p := fun _ => True) (below_regrown w5 d os)) fun _ _ => trivial) ((HSR.out.keep2 (Keep.of_belowN HBr5.out) HRV.out).below (below_regrown w5 d os)) (by omega))
        obtain ⟨ql, hql⟩ : ∃ ql, (bookL L l).length = ql := ⟨_, rfl⟩
        have HQL := Lib.hid hql
        rw [hql] at cL kr
        clear hql
        refine wp_region_quiet_below (by kernel_rfl) (by kernel_rfl) ?_
        repeat (first | go_big_quiet_skip | (go_big_quiet_want; go_big_quiet_op; first | go_big_quiet_on | go_big_quiet_call (first | exact cI _ _ | exact cL _ _ | exact cK _ _)) | quiet_step (first | exact cI _ _ | exact cL _ _ | exact cK _ _))
        refine wpQuiet_nil ?_
        intro _ hw'
        obtain ⟨⟨dq, osq⟩, hw''⟩ := hw'
        subst hw''
        have hbq := below_regrown w5 dq osq
        generalize Sort.grow (redrawn w5 dq) osq = w6 at hbq ⊢
        have HBQ := Lib.hid hbq
        have HIN6 := Lib.hid (own_keep HIN5.out (Keep.of_below (p := fun _ => True) hbq) fun _ _ => trivial)
        have HX6 := Lib.hid (own_keep HX5.out (Keep.of_below (p := fun _ => True) hbq) fun _ _ => trivial)
        obtain ⟨cur, hcur, hcs, hnc, hcm⟩ := own_blk HIN6.out
        have HCUR := Lib.hid hcur
        clear cI cL cK kr kc hbq hcur
        go_wp2_with fail
        refine (overT_any g l.length cg cur w6 HCUR.out hcs hnc (by omega) hcm).mono ?_
        rintro e w7 ⟨rfl, hk7⟩
        have HK7 := Lib.hid hk7
        have HX7 := Lib.hid (own_keep HX6.out hk7 (fun g' e => by have := (HXR.out.lt g' e).1; omega))
        clear hk7 hcs
        go_wp2_with fail
        refine (overI_own HX7.out (by omega)).mono ?_
        rintro e w8 ⟨rfl, hk8⟩
        have HK8 := Lib.hid hk8
        clear hk8
        go_wp2_with fail
        go_roundw
        case rel =>
          have o6 := HO5.out.below HBQ.out
          have o7 := o6.keep_ne HK7.out HOG4.out
          have o8 := o7.keep HK8.out fun i _ hh e => by
            have ho := HOX.out i e
            rcases hh with rfl | rfl | hh
            · exact ho.1 rfl
            · exact ho.2.1 rfl
            · exact ho.2.2 hh
          have r6 := HRB5.out.below HBQ.out
          have r7 := r6.keep HK7.out (by omega) (fun g' e => by have := HSB5.out g' e; omega)
          have r8 := r7.keep HK8.out (fun e => by have := (HXR.out.lt _ e).1; omega) (fun g' e e2 => by have h1 := HSB5.out g' e; have h2 := (HXR.out.lt _ e2).2; omega)
          have q6 : Below w.heap.size w w6 := HB5.out.trans (HBQ.out.mono HB5.out.size)
          have q7 := q6.trans (HK7.out.below q6.size (fun i hi => by omega))
          have q8 := q7.trans (HK8.out.below q7.size (fun i hi e => by have := (HXR.out.lt _ e).1; omega))
          exact ⟨k + 1, by omega, by go_num, ⟨_, _, _, o8, r8, HOR4.out, HOS5.out, Nat.le_trans (book_len L l) HLSUM.out⟩, q8, hrn⟩
        case measure => simp [intOf]; omega
      · obtain rfl : k = ls.length := by omega
        have hL9 : L.length ≤ 400 := by have h1 := HLL.out; have h2 := sum_take_le ls ls.length; have h3 := HT.out; unfold tot at h3; omega
        obtain ⟨cr0, fr0⟩ := HRB.out.cells
        obtain ⟨Ar, cr, rfl, _⟩ := HRB.out.sr
        have HCR := Lib.hid cr0
        go_wp2_with fail
        go_region_held3 (fun w' => w'.cell? ⟨r, 0, none⟩ = some (.slice Ar L.length cr) ∧ Below wr.heap.size wr w') (first | exact ⟨(World.cell?_drew wr _).trans HCR.out, (Below.refl _ _).drew⟩ | (refine endS_next ?_ hrlt hb5; assumption) | (refine endS_next ?_ hrlt hb6; assumption) | (refine endS_next ?_ hrlt hb7; assumption) | (go_keep; done))
          (first
          | (go_at_call 27; have hS := ‹_ ∧ Below wr.heap.size wr _›; refine (all_any (HOWN.out.below hS.2).bk 400 (by omega) (by omega)).mono ?_; rintro e w5 ⟨v5, rfl, hrow5, hb5⟩; obtain ⟨A5, c5, rfl⟩ := row_form2 hrow5)
          | (go_at_call 26; have hS := ‹_ ∧ Below wr.heap.size wr _›; refine (sameT_any _ _ L L _ (SR.of_own hrow5) (HRB.out.sr.below hS.2) (by omega)).mono ?_; rintro e w6 ⟨rfl, hb6⟩; rw [decide_eq_true rfl])
          | (go_at_call 10; refine (awake_any _).mono ?_; rintro e w7 ⟨rfl, hb7⟩))
        all_goals (
          have hS := ‹_ ∧ Below wr.heap.size wr _›
          go_wp2_with fail
          go_ret
          exact ⟨rfl, HBEL.out.trans (hS.2.mono hzr)⟩)
end Go.Proofs.Ytepelfigcoohiaa
