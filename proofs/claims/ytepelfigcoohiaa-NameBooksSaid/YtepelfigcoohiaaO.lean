/- Walk of the stage's theorem: numbers and texts are one to one. -/
import Derived.Test.YtepelfigcoohiaaN
namespace Go.Proofs.Ytepelfigcoohiaa
open Go.ChangeShapes Go.WideShapes Go.ChangeAt Go.RowKit Go.Maps Go.Shelf
set_option linter.unusedVariables false

theorem text_num {L : List ByteArray} {s : ByteArray} (h : s ∈ L) : textOf L (numOf L s : Int) = (s, true) := by
  unfold textOf
  rw [dif_pos ⟨by omega, by simpa using numOf_lt h⟩]
  simp [numOf_get h]
theorem text_end (L : List ByteArray) : textOf L (L.length : Int) = (⟨#[]⟩, false) := by
  unfold textOf
  rw [dif_neg (by simp)]
theorem mem_book {L l : List ByteArray} {s : ByteArray} (h : s ∈ l) : s ∈ bookL L l := by
  unfold bookL
  rw [List.mem_append, mem_fr]
  by_cases hL : s ∈ L
  · exact .inl hL
  · exact .inr ⟨h, hL⟩
theorem nums_get (L l : List ByteArray) (j : Nat) (h : j < l.length) : (numsL L l)[j]'(by simpa [numsL] using h) = (numOf (bookL L l) l[j] : Int) := by simp [numsL]
theorem nums_len (L l : List ByteArray) : (numsL L l).length = l.length := by simp [numsL]
theorem book_len (L l : List ByteArray) : (bookL L l).length ≤ L.length + l.length := by
  unfold bookL
  have := fr_length L l
  simp; omega

theorem below_drewN {B : Nat} {a w : World} (h : Below B a w) (k : Nat) : Below B a (w.drewN k) := ⟨h.os, h.tape, h.output, h.size, h.block⟩

theorem SR.cut {w : World} {A : Option Addr} {c : Nat} {L M : List ByteArray} (h : SR w (.slice A (L ++ M).length c) (L ++ M)) : SR w (.slice A L.length c) L := by
  obtain ⟨A', c', e, hr⟩ := h
  injection e with e1 e2 e3
  subst e1
  subst e3
  refine ⟨_, _, rfl, fun hn => ?_⟩
  obtain ⟨ad, rfl, hg, hc⟩ := hr (by simp; omega)
  refine ⟨ad, rfl, hg, fun k hk => ?_⟩
  rw [hc k (by simp; omega), List.getElem_append_left hk]
theorem own_cap {w : World} {base e n c : Nat} {A : Option Addr} {xs : List Value} (h : w.ownsRow base e 1 (.slice A n c) n xs) : n ≤ c := by
  rcases h.2 with ⟨e, rfl⟩ | ⟨g, cap, cur, e, _, _, hc, _⟩
  · exact Nat.zero_le _
  · injection e with _ _ e3; subst e3; exact hc

/-- what stands at the head of each row's round -/
structure OneI (N : Nat) (w : World) (b m : Nat) (ls : List (List ByteArray)) (k : Nat) (vw : Value) (wr : World) : Prop where
  own : ∃ sv L, Own N wr b m sv L ∧ SR wr vw L ∧ (∀ g, vw.ownBlock = some g → Off b m sv g) ∧ L.length ≤ ((ls.take k).map List.length).sum
  bel : Below N w wr

set_option maxRecDepth 100000 in
set_option maxHeartbeats 4000000 in
theorem one_any {w : World} {v : Value} {ls : List (List ByteArray)} (h : RR w.heap.size w v ls) (hl : ls.length ≤ 281474976710656) (hls : ∀ l ∈ ls, l.length ≤ 281474976710656 ∧ ∀ s ∈ l, s.size ≤ 140737488355328) :
    Calls Try.prog 5 #[v] w fun e w' => e = .returned (.bool true) ∧ Below w.heap.size w w' := by
  have HR := Lib.hid h
  have HLS := Lib.hid hls
  clear h hls
  go_enter Try.func5, Try.ntmps5
  go_wp2_with (go_at_call 10; refine (awake_any _).mono ?_; rintro e w1 ⟨rfl, hb1⟩; have HB1 := Lib.hid hb1; clear hb1)
  refine (size_any (HR.out.below HB1.out) hl (fun l hl => (HLS.out l hl).1)).mono ?_
  rintro e w' ⟨n, rfl, rfl, hn0, hn4⟩
  have HN4 := Lib.hid hn4
  clear hn4
  by_cases hbig : 400 < n
  · go_wp2
    go_ret
    exact ⟨rfl, HB1.out⟩
  · have hle : n ≤ 400 := by omega
    have HT := Lib.hid (HN4.out.1 hle)
    clear hbig
    go_wp2_with (go_at_call 12; refine (new_any _).mono ?_; rintro e w2 ⟨b, m, rfl, hbk, h1, h2, hb2⟩)
    have HB2 := Lib.hid (HB1.out.trans (hb2.mono HB1.out.size))
    have hz := HB1.out.size
    have HO2 := Lib.hid (⟨hbk, by omega, by omega, fun g e => by simp [Value.ownBlock] at e⟩ : Own w.heap.size w2 b m _ [])
    clear hb2 hbk h1 h2
    obtain ⟨A, c, rfl, _⟩ := HR.out
    go_wp2
    go_loopw [4, 5] (fun vw i wr => ∃ k : Nat, k ≤ ls.length ∧ i = .int .i64 k ∧ OneI w.heap.size w b m ls k vw wr) (fun _ i _ => ls.length - (intOf i).toNat)
    case atStart => exact ⟨0, Nat.zero_le _, rfl, ⟨_, [], HO2.out, ⟨none, 0, rfl, fun h => absurd h (by simp)⟩, fun g e => by simp [Value.ownBlock] at e, Nat.zero_le _⟩, HB2.out⟩
    case round =>
      obtain ⟨k, hk, rfl, ⟨sv, L, hown, hsw, hoff, hLlen⟩, hbel⟩ := hrel
      have HOWN := Lib.hid hown
      have HSW := Lib.hid hsw
      have HOFF := Lib.hid hoff
      have HLL := Lib.hid hLlen
      have HBEL := Lib.hid hbel
      have hzr := hbel.size
      clear hown hsw hoff hLlen hbel
      by_cases hlt : k < ls.length
      · obtain ⟨A', c', hA, hr⟩ := HR.out.below HBEL.out
        injection hA with hA1 hA2 hA3
        subst hA1
        subst hA3
        obtain ⟨ad, rfl, hg, hc⟩ := hr (by omega)
        obtain ⟨rv, hck, hsr, hrv⟩ := hc k hlt
        have hlk := HLS.out ls[k] (List.getElem_mem _)
        have hsum := sum_take ls k hlt
        have hsum2 := sum_take_le ls (k + 1)
        obtain ⟨l, hlE⟩ : ∃ l, ls[k] = l := ⟨_, rfl⟩
        rw [hlE] at hsr hlk hsum hrv
        have hll : L.length + l.length ≤ ((ls.take (k + 1)).map List.length).sum := by have := HLL.out; omega
        have h400 : L.length + l.length ≤ 400 := by have := HT.out; unfold tot at this; omega
        have HSR := Lib.hid hsr
        have HRV := Lib.hid hrv
        have HLK := Lib.hid hlk.2
        have HLE := Lib.hid hlE
        have HLSUM := Lib.hid hll
        clear hc hr hsum hsum2 hlE hll hsr hrv hlk
        go_wp2_with fail
        refine (of_yes HOWN.out hzr rv l HSR.out (fun h0 g hg => HOWN.out.off (HRV.out h0 g hg)) HLK.out (by omega) (by have := fr_length L l; omega)).mono ?_
        rintro e w3 ⟨xv, sv3, rfl, hrow3, hown3, hb3, hloc3, hk3⟩
        have hz3 := hk3.size
        have HB3 := Lib.hid (HBEL.out.trans hb3)
        have HIX := Lib.hid (IR.of_own hrow3)
        have HSW3 := Lib.hid (HSW.out.keep hk3 (fun g hg _ => HOFF.out g hg))
        have HO3 := Lib.hid hown3
        have hlt' := hlt
        obtain ⟨A'', c'', hA, hr3⟩ := HR.out.below HB3.out
        injection hA with hA1 hA2 hA3
        subst hA1
        subst hA3
        obtain ⟨ad', hadE, hg', hc3⟩ := hr3 (by omega)
        injection hadE with hadE
        subst hadE
        obtain ⟨rv', hck', hsr3, hrv3⟩ := hc3 k hlt
        have HLE2 := HLE.out
        rw [HLE2] at hsr3
        obtain ⟨A5, c5, rfl, hsr5⟩ := hsr3
        have HSR5 := Lib.hid hsr5
        obtain ⟨A6, c6, rfl, hir6⟩ := HIX.out
        rw [nums_len]
        have HIR6 := Lib.hid hir6
        clear hrow3 hown3 hb3 hloc3 hk3 hr3 hc3 hrv3 hsr5 hir6 HLE2
        go_wp2_with fail
        go_loop [8] (fun i => ∃ j : Nat, j ≤ l.length ∧ i = .int .i64 j) (fun i => l.length - (intOf i).toNat)
        case atStart => exact ⟨0, Nat.zero_le _, rfl⟩
        case round =>
          obtain ⟨j, hj, rfl⟩ := hrel
          by_cases hjl : j < l.length
          · obtain ⟨ad6, rfl, hg6, hc6⟩ := HIR6.out (by rw [nums_len]; omega)
            obtain ⟨ad5, rfl, hg5, hc5⟩ := HSR5.out (by omega)
            have hx := hc6 j (by rw [nums_len]; exact hjl)
            have hs := hc5 j hjl
            rw [nums_get L l j hjl] at hx
            have hmem : l[j] ∈ bookL L l := mem_book (List.getElem_mem hjl)
            have hsz := HLK.out l[j] (List.getElem_mem hjl)
            obtain ⟨t, ht⟩ : ∃ t, l[j] = t := ⟨_, rfl⟩
            rw [ht] at hx hs hmem hsz
            have HTX := Lib.hid (text_num hmem)
            have HMEM := Lib.hid hmem
            obtain ⟨y, hy⟩ : ∃ y : Int, (numOf (bookL L l) t : Int) = y := ⟨_, rfl⟩
            rw [hy] at hx HTX
            have HY := Lib.hid hy
            clear hc6 hc5 ht hmem hy
            go_wp2_with fail
            refine (text_any HO3.out.bk y).mono ?_
            rintro e w' htx
            rw [HTX.out] at htx
            obtain ⟨rfl, rfl⟩ := htx
            go_wp2_with fail
            refine (find_any HO3.out.bk t (by unfold maxLen; omega)).mono ?_
            rintro e w' ⟨rfl, rfl⟩
            rw [HY.out, decide_eq_true HMEM.out]
            go_wp2_with fail
            go_round
            case rel => exact ⟨j + 1, by omega, by go_num⟩
            case measure => simp [intOf]; omega
          · obtain rfl : j = l.length := by omega
            go_wp2_with fail
            have hbl := book_len L l
            refine (all_any HO3.out.bk 400 (by omega) (by omega)).mono ?_
            rintro e w4 ⟨vn, rfl, hrow4, hb4⟩
            have HO4 := Lib.hid (HO3.out.below hb4)
            have hof4 := own_off HO3.out.bk hrow4
            have HOF4 := Lib.hid hof4
            have HSN := Lib.hid (SR.of_own hrow4)
            have HSW4 := Lib.hid (HSW3.out.below hb4)
            have HB4 := Lib.hid (HB3.out.trans (hb4.mono (by have := HB3.out.size; omega)))
            obtain ⟨A7, c7, rfl⟩ := row_form2 hrow4
            have hcap := own_cap hrow4
            obtain ⟨A8, c8, rfl, _⟩ := HSW4.out
            have hLb : L.length ≤ (bookL L l).length := by unfold bookL; simp
            have hcap2 : L.length ≤ c7 := by omega
            have hd : decide ((bookL L l).length < L.length) = false := by simpa using hLb
            have hsame : SR w4 (.slice A7 L.length c7) L := SR.cut (M := fr L l) HSN.out
            have HSAME := Lib.hid hsame
            have hL4 : L.length ≤ 400 := by omega
            clear hrow4 hb4 hof4 hsame hbl
            go_wp2_with (go_at_call 22; refine (len_any HO4.out.bk).mono ?_; rintro e w' ⟨rfl, rfl⟩)
            refine (sameT_any _ _ L L _ HSAME.out HSW4.out (by omega)).mono ?_
            rintro e w5 ⟨rfl, hb5⟩
            rw [decide_eq_true rfl]
            have HB5 := Lib.hid (HB4.out.trans (hb5.mono HB4.out.size))
            have HO5 := Lib.hid (HO4.out.below hb5)
            have HSN5 := Lib.hid (HSN.out.below hb5)
            clear hb5
            go_wp2_with fail
            go_roundw
            case rel => exact ⟨k + 1, by omega, by go_num, ⟨_, _, HO5.out, HSN5.out, HOF4.out, Nat.le_trans (book_len L l) HLSUM.out⟩, HB5.out⟩
            case measure => simp [intOf]; omega
      · obtain rfl : k = ls.length := by omega
        obtain ⟨A9, c9, rfl, hrw⟩ := HSW.out
        have hL9 : L.length ≤ 400 := by have h1 := HLL.out; have h2 := sum_take_le ls ls.length; have h3 := HT.out; unfold tot at h3; omega
        have HRW := Lib.hid hrw
        clear hrw
        obtain ⟨wo, rfl⟩ : ∃ wo : World, wo = wr := ⟨_, rfl⟩
        go_wp2_with fail
        go_loopw [14] (fun i wr => ∃ p : Nat, p ≤ L.length ∧ i = .int .i64 p ∧ Below wo.heap.size wo wr) (fun i _ => L.length - (intOf i).toNat)
        case atStart => exact ⟨0, Nat.zero_le _, rfl, Below.refl _ _⟩
        case round =>
          obtain ⟨p, hp, rfl, hbq⟩ := hrel
          have HBQ := Lib.hid hbq
          clear hbq
          by_cases hpl : p < L.length
          · obtain ⟨ad9, rfl, hg9, hc9⟩ := HRW.out (by omega)
            have HC9 := Lib.hid hc9
            clear hc9
            go_wp2_with fail
            obtain ⟨wp, rfl⟩ : ∃ wp : World, wp = wr := ⟨_, rfl⟩
            go_loopw [15] (fun i wr => ∃ j : Nat, j ≤ p ∧ i = .int .i64 j ∧ Below wo.heap.size wo wr) (fun i _ => p - (intOf i).toNat)
            case atStart => exact ⟨0, Nat.zero_le _, rfl, HBQ.out⟩
            case round =>
              obtain ⟨j, hj, rfl, hbj⟩ := hrel
              have HBJ := Lib.hid hbj
              by_cases hjp : j < p
              · have g1 := (hbj.cell (p := ad9.add p) (by rw [block_add]; exact hg9)).trans (HC9.out p hpl)
                have g2 := (hbj.cell (p := ad9.add j) (by rw [block_add]; exact hg9)).trans (HC9.out j (by omega))
                have hne : L[p] ≠ L[j] := fun e => by have := (List.getElem_inj HOWN.out.bk.nodup).1 e; omega
                obtain ⟨x, hx⟩ : ∃ x, L[p] = x := ⟨_, rfl⟩
                obtain ⟨y, hy⟩ : ∃ y, L[j]'(by omega) = y := ⟨_, rfl⟩
                rw [hx] at g1 hne
                rw [hy] at g2 hne
                have hbf : (x.toList == y.toList) = false := by rw [beq_eq_false_iff_ne]; exact fun e => hne (toList_inj e)
                have hjL : j < L.length := by omega
                clear hbj hx hy hne
                go_wp2_with fail
                go_quiet (fail)
                go_wp2_with fail
                go_roundw
                case rel => exact ⟨j + 1, by omega, by go_num, below_drewN HBJ.out _⟩
                case measure => simp [intOf]; omega
              · obtain rfl : j = p := by omega
                go_wp2_with fail
                go_roundw
                case rel => exact ⟨j + 1, by omega, by go_num, HBJ.out⟩
                case measure => simp [intOf]; omega
          · obtain rfl : p = L.length := by omega
            go_wp2_with fail
            have HO9 := HOWN.out.below HBQ.out
            refine (len_any HO9.bk).mono ?_
            rintro e w' ⟨rfl, rfl⟩
            go_wp2_with fail
            refine (text_any (HOWN.out.below HBQ.out).bk L.length).mono ?_
            rintro e w' htx
            rw [text_end] at htx
            obtain ⟨rfl, rfl⟩ := htx
            go_wp2_with fail
            go_ret
            exact ⟨rfl, HBEL.out.trans (HBQ.out.mono HBEL.out.size)⟩
end Go.Proofs.Ytepelfigcoohiaa
