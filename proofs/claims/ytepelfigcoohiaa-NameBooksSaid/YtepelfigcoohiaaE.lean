/- Walk of the method that tells which texts are new. -/
import Derived.Test.YtepelfigcoohiaaD
import Derived.Deep.LoopGhost
import Derived.WalkMore
namespace Go.Proofs.Ytepelfigcoohiaa
open Go.ChangeShapes Go.WideShapes Go.ChangeAt Go.RowKit Go.Maps Go.Shelf
set_option linter.unusedVariables false

/-- what is told of the texts that are new -/
def FreshR (L l : List ByteArray) (w : World) (e : Ending) (w' : World) : Prop := Below w.heap.size w w' ∧
  ((L.length + (fr L l).length ≤ 65536 ∧ ∃ v, e = .returned (.tuple #[v, .int .i64 0]) ∧ w'.ownsRow w.heap.size 9 1 v (fr L l).length ((fr L l).map Value.string)) ∨
   (65536 < L.length + (fr L l).length ∧ e = .returned (.tuple #[.slice none 0 0, .int .i64 3])))

/-- what stands at the head of each round -/
structure FrI (n0 C : Nat) (F : List ByteArray) (v : Value) (w : World) : Prop where
  map : ∃ D : Dt, w.ownsMap Try.prog 9 (plainElem Try.prog 3) C F.length D ∧ Num D F
  row : w.ownsRow n0 9 1 v F.length (F.map Value.string)

theorem FrI.alloc {n0 C : Nat} {F : List ByteArray} {v : Value} {w : World} (h : FrI n0 C F v w) (o : Obj) : FrI n0 C F v (w.alloc o) := by
  obtain ⟨⟨D, h1, h2⟩, h3⟩ := h
  exact ⟨⟨D, h1.alloc o, h2⟩, h3.alloc o⟩

theorem row_map_ne {w : World} {base : Nat} {e : TypeId} {size n C j : Nat} {v : Value} {xs : List Value} {D : Dt} {k : TypeId} {R : Value → Option (Dt × List MemPlace)} (h : w.ownsRow base e size v n xs) (hm : w.ownsMap Try.prog k R C j D) : v.ownBlock ≠ some C := by
  intro e
  obtain ⟨es, cl, hm, _⟩ := hm
  rcases h.2 with ⟨rfl, _⟩ | ⟨g, cap, cur, rfl, _, hh, _⟩
  · simp [Value.ownBlock] at e
  · obtain rfl : g = C := by simpa [Value.ownBlock] using e
    rw [hm] at hh
    cases hh

theorem fri_step {w0 w1 w2 w3 : World} {n0 C : Nat} {F : List ByteArray} {v v' : Value} {s : ByteArray} {D : Dt} {o : Obj} (hmap : w2.ownsMap Try.prog 9 (plainElem Try.prog 3) C (F.length + 1) (D.put (key s) (.lit (.int .i64 (F.length : Int))))) (hnum : Num D F) (hs : ¬ s ∈ F)
    (hg : w1.grownBy w2 (some C)) (hrow1 : w1.ownsRow n0 9 1 v F.length (F.map Value.string)) (hne : v.ownBlock ≠ some C) (hrow : w3.ownsRow n0 9 1 v' (F.length + 1) (F.map Value.string ++ [.string s])) (hg2 : (w2.alloc o).grownBy w3 v.ownBlock)
    (hb : Below n0 w0 w1) (hn0 : n0 ≤ C) (hn1 : n0 ≤ w1.heap.size) : FrI n0 C (F ++ [s]) v' w3 ∧ Below n0 w0 w3 := by
  have z1 := hg.size
  refine ⟨⟨⟨_, ?_, num_snoc hnum hs⟩, by simpa using hrow⟩, ?_⟩
  · rw [List.length_append]
    have hlt := hmap.lt
    exact (hmap.alloc o).kept hg2 (fun e => hne e.symm)
  · refine hb.trans ⟨hg2.os.trans hg.os, hg2.tape.trans hg.tape, hg2.output.trans hg.output, by have := hg2.size; simp at this; omega, fun k hk => ?_⟩
    rw [hg2.block k (by simp; omega) (fun e => by have := (hrow1.lt k e.symm).1; omega), Below.heap_alloc _ _ _ (by omega)]
    exact hg.block k (by omega) (fun e => by injection e with e; omega)

set_option maxHeartbeats 2000000 in
theorem fresh_any {w : World} {b m : Nat} {sv : Value} {L : List ByteArray} (h : Bk w b m sv L) (v : Value) (l : List ByteArray) (hv : SR w v l)
    (hl : ∀ s ∈ l, s.size ≤ 140737488355328) (hlen : L.length ≤ 65536) (hll : l.length ≤ 1000000) : Calls Try.prog 35 #[.pointer (some ⟨b, 0, none⟩), v] w (FreshR L l w) := by
  obtain ⟨i0, hi, hz0, hz1, hz2⟩ := info_parts info9
  have hmm := @run_makeMap Try.prog
  have HV := Lib.hid hv
  obtain ⟨A, c, rfl, hv2⟩ := hv
  obtain ⟨n, hn⟩ : ∃ n, l.length = n := ⟨_, rfl⟩
  have HN := Lib.hid hn
  have HL := Lib.hid hl
  have HB := Lib.hid h
  rw [hn] at hll ⊢
  clear hl h hn hv2
  go_enter Try.func35, Try.ntmps35
  go_wp2
  go_step3
  go_wp2
  go_step3
  go_wp2
  go_loopw [6, 17] (fun v i wr => ∃ k : Nat, k ≤ n ∧ i = .int .i64 k ∧ FrI w.heap.size w.heap.size (fr L (l.take k)) v wr ∧ L.length + (fr L (l.take k)).length ≤ 65536 ∧ Below w.heap.size w wr) (fun _ i _ => n - (intOf i).toNat)
  case atStart => exact ⟨0, Nat.zero_le _, rfl, ⟨⟨.map [], World.ownsMap_made _ _ _ _, num_nil⟩, World.ownsRow_nil _ _ _ _⟩, by simpa [fr] using hlen, (Below.refl _ _).alloc (Nat.le_refl _) _⟩
  case round =>
    obtain ⟨k, hk, rfl, hfr, hle, hb⟩ := hrel
    by_cases hlt : k < n
    · have hkl : k < l.length := by rw [HN.out]; exact hlt
      obtain ⟨A', c', hA, hv3⟩ := HV.out.below hb
      injection hA with hA1 hA2 hA3
      subst hA1
      subst hA3
      obtain ⟨ad, rfl, hg, hc⟩ := hv3 (by omega)
      have hck := hc k hkl
      have hsucc := fr_succ L l k hkl
      obtain ⟨s, hs⟩ : ∃ s, l[k] = s := ⟨_, rfl⟩
      rw [hs] at hck hsucc
      have hsz := HL.out s (by rw [← hs]; exact List.getElem_mem _)
      have hkey' := hkey s (by unfold maxLen; omega)
      have hB1 := HB.out.below hb
      obtain ⟨c0, c1, c2, f2⟩ := hB1.cells
      obtain ⟨A1, q1, rfl, _⟩ := hB1.sr
      obtain ⟨D0, own0, num0⟩ := hB1.map
      obtain ⟨⟨D1, own1, num1⟩, hrow⟩ := hfr
      have has0 := (num0.2 s).1
      have has1 := (num1.2 s).1
      have HSUCC := Lib.hid hsucc
      have HB1 := Lib.hid hB1
      have HBE := Lib.hid hb
      have HNUM := Lib.hid num1
      have hmono := fr_mono L l (k + 1)
      obtain ⟨F, hF⟩ : ∃ F, fr L (l.take k) = F := ⟨_, rfl⟩
      rw [hF] at HSUCC HNUM own1 hrow has1 hle
      clear hc hv3 hs hsucc hB1 hb hF num0 num1
      by_cases h0 : s ∈ L
      · have e0 : Maps.has D0 (key s) = true := by rw [has0]; simpa using h0
        have HE := Lib.hid (frS_old (F := F) (.inl h0 : s ∈ L ∨ s ∈ F))
        clear has0 has1 h0
        go_wp2
        refine wp_loop_rounds 3 ?_
        rw [rounds_succ]
        go_wp2_with (at_lookup; refine wpList_lookup_own_ok_int _ rfl _ _ 53 rfl 9 3 .i64 law9 Try.underlying53 Try.underlying3 (zero3 _) m L.length D0 rfl (own0.alloc _) _ _ rfl hkey' ?_; intro x1 hat hwc; have HA := Lib.hid hat; clear hat)
        go_roundw
        case rel => exact ⟨k + 1, by omega, by go_num, by rw [HSUCC.out, HE.out]; exact FrI.alloc ⟨⟨D1, own1, HNUM.out⟩, hrow⟩ _, by rw [HSUCC.out, HE.out]; exact hle, HBE.out.alloc (by have := HBE.out.size; omega) _⟩
        case measure => simp [intOf]; omega
      · have e0 : Maps.has D0 (key s) = false := by rw [has0]; simpa using h0
        have tok1 : True := trivial
        by_cases h1 : s ∈ F
        · have e1 : Maps.has D1 (key s) = true := by rw [has1]; simpa using h1
          have HE := Lib.hid (frS_old (F := F) (.inr h1 : s ∈ L ∨ s ∈ F))
          clear has0 has1 h0 h1
          go_wp2
          refine wp_loop_rounds 3 ?_
          rw [rounds_succ]
          go_wp2_with (at_lookup; have _t := tok1; refine wpList_lookup_own_ok_int _ rfl _ _ 53 rfl 9 3 .i64 law9 Try.underlying53 Try.underlying3 (zero3 _) m L.length D0 rfl (own0.alloc _) _ _ rfl hkey' ?_; intro x1 hat hwc; have HA := Lib.hid hat; clear hat tok1)
          rw [rounds_succ]
          go_wp2_with (at_lookup; refine wpList_lookup_own_ok_int _ rfl _ _ 53 rfl 9 3 .i64 law9 Try.underlying53 Try.underlying3 (zero3 _) w.heap.size F.length D1 rfl (own1.alloc _) _ _ rfl hkey' ?_; intro x2 hat hwc2; have HA2 := Lib.hid hat; clear hat)
          go_roundw
          case rel => exact ⟨k + 1, by omega, by go_num, by rw [HSUCC.out, HE.out]; exact FrI.alloc ⟨⟨D1, own1, HNUM.out⟩, hrow⟩ _, by rw [HSUCC.out, HE.out]; exact hle, HBE.out.alloc (by have := HBE.out.size; omega) _⟩
          case measure => simp [intOf]; omega
        · have e1 : Maps.has D1 (key s) = false := by rw [has1]; simpa using h1
          have HE := Lib.hid (frS_new (F := F) h0 h1)
          have HNE := Lib.hid h1
          have HMONO := Lib.hid hmono
          obtain ⟨A2, q2, rfl, _⟩ := SR.of_own hrow
          have hvne := row_map_ne hrow own1
          have HVNE := Lib.hid hvne
          have hzz := HBE.out.size
          have hbl : b < wr.heap.size := HB1.out.ltb
          clear has0 has1 h0 h1 hvne hmono
          by_cases hfull : L.length + F.length = 65536
          · have hfb : ((L.length : Int) + (F.length : Int) == 65536) = true := by rw [beq_iff_eq]; omega
            have HFULL := Lib.hid hfull
            clear hfull
            go_wp2
            refine wp_loop_rounds 3 ?_
            rw [rounds_succ]
            go_wp2_with (at_lookup; have _t := tok1; refine wpList_lookup_own_ok_int _ rfl _ _ 53 rfl 9 3 .i64 law9 Try.underlying53 Try.underlying3 (zero3 _) m L.length D0 rfl (own0.alloc _) _ _ rfl hkey' ?_; intro x1 hat hwc; have HA := Lib.hid hat; clear hat tok1)
            rw [rounds_succ]
            go_wp2_with (at_lookup; refine wpList_lookup_own_ok_int _ rfl _ _ 53 rfl 9 3 .i64 law9 Try.underlying53 Try.underlying3 (zero3 _) w.heap.size F.length D1 rfl (own1.alloc _) _ _ rfl hkey' ?_; intro x2 hat hwc2; have HA2 := Lib.hid hat; clear hat)
            rw [rounds_succ]
            go_wp2
            rw [Exit.noGoto_ret]
            go_ret2
            refine ⟨HBE.out.alloc hzz _, .inr ⟨?_, rfl⟩⟩
            have h1 := HMONO.out
            have h2 := HFULL.out
            rw [HSUCC.out, HE.out, List.length_append] at h1
            simp at h1
            omega
          · have hfb : ((L.length : Int) + (F.length : Int) == 65536) = false := by rw [beq_eq_false_iff_ne]; omega
            have hfl : L.length + F.length ≤ 65535 := by omega
            clear hfull
            go_wp2
            refine wp_loop_rounds 3 ?_
            rw [rounds_succ]
            go_wp2_with (at_lookup; have _t := tok1; refine wpList_lookup_own_ok_int _ rfl _ _ 53 rfl 9 3 .i64 law9 Try.underlying53 Try.underlying3 (zero3 _) m L.length D0 rfl (own0.alloc _) _ _ rfl hkey' ?_; intro x1 hat hwc; have HA := Lib.hid hat; clear hat tok1)
            rw [rounds_succ]
            go_wp2_with (at_lookup; refine wpList_lookup_own_ok_int _ rfl _ _ 53 rfl 9 3 .i64 law9 Try.underlying53 Try.underlying3 (zero3 _) w.heap.size F.length D1 rfl (own1.alloc _) _ _ rfl hkey' ?_; intro x2 hat hwc2; have HA2 := Lib.hid hat; clear hat)
            rw [rounds_succ]
            go_wp2_with (first | (at_mapUpdate; refine wpList_mapUpdate_own _ rfl _ _ _ 53 rfl 9 3 law9 Try.underlying53 _ w.heap.size F.length _ rfl (own1.alloc _) (by unfold maxLen; omega) _ _ _ rfl rfl hkey' _ [] (plainElem_int Try.underlying3 (WalkArith.wf_i64 (by omega))) ?_; intro w2 hown2 hg2; have hrow2 := (hrow.alloc _).kept hg2 (.inr HVNE.out)) | (at_builtin; refine wpList_append_own_at _ rfl _ _ 30 rfl w.heap.size 9 i0 (.string ⟨#[]⟩) 1 16 Try.underlying30 hi hz0 hz1 hz2 rfl (by decide) _ _ _ rfl (hrow2.alloc _) ⟨w2.heap.size, 0, none⟩ 1 1 [.string s] rfl rfl (cell_one_new _ _ _) (by simp [Value.oneCell']) (by unfold maxLen; omega) (by omega) (by have := hg2.size; simp at this ⊢; omega) ?_; intro v' w3 hown' hgrow hnil hloc))
            have HT := fri_step hown2 HNUM.out HNE.out hg2 (hrow.alloc _) HVNE.out hown' hgrow (HBE.out.alloc hzz _) (Nat.le_refl _) (by simp; omega)
            go_roundw
            case rel => exact ⟨k + 1, by omega, by go_num, by rw [HSUCC.out, HE.out]; exact HT.1, by rw [HSUCC.out, HE.out, List.length_append]; simp; omega, HT.2⟩
            case measure => simp [intOf]; omega
    · obtain rfl : n = k := by omega
      go_wp2
      rw [Exit.noGoto_ret]
      go_ret2
      rw [List.take_of_length_le (by have := HN.out; omega)] at hfr hle
      exact ⟨hb, .inl ⟨hle, _, rfl, hfr.row⟩⟩
end Go.Proofs.Ytepelfigcoohiaa
