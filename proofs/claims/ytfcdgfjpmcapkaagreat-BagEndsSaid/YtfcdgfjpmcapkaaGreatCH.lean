/- Walk of BagFirst. -/
import Derived.Test.YtfcdgfjpmcapkaaGreatCG
namespace Go.Proofs.YtfcdgfjpmcapkaaGreat
open Go.ChangeShapes Go.WideShapes Go.ChangeAt Go.RowKit Go.Maps Go.Shelf
set_option linter.unusedVariables false

attribute [local go_sem] Oper.semAt_some

def Tr (w : World) (e : Ending) (w' : World) : Prop := e = .returned (.bool true) ∧ Below w.heap.size w w'
theorem PE.lt {w : World} {v : Value} {l : List Et} (h : PE w v l) : 0 < l.length → ∀ g, v.ownBlock = some g → g < w.heap.size := by
  obtain ⟨A, c, rfl, h⟩ := h
  intro hn g e
  obtain ⟨ad, rfl, h1, _⟩ := h hn
  simp [Value.ownBlock] at e
  omega

theorem first_long {w : World} {v : Value} {l : List Et} (h : PE w v l) (hl : 400 < l.length) : Calls Tryz.prog 6 #[v] w (Tr w) := by
  obtain ⟨A, c, rfl, _⟩ := h
  have hl' : (400 : Int) < (l.length : Int) := by omega
  clear hl
  go_enter Tryz.func6, Tryz.ntmps6
  go_wp2_with fail
  refine (awake_any _).mono ?_
  rintro e w1 ⟨rfl, hb1⟩
  have HB := Lib.hid hb1
  clear hb1
  go_wp2_with fail
  go_ret
  exact ⟨rfl, HB.out⟩

/-- how a round of cuts begins -/
def FstI (w : World) (b L : Nat) (q : Nat) (z : Int) (a : Bool) (S : List Et) (wr : World) : Prop :=
  ∃ O m, Bs w.heap.size wr b O S m ∧ Below w.heap.size w wr ∧ m ≤ 400 ∧ S.length + q ≤ L ∧ (∀ x ∈ S, We x) ∧ (a = true → ∀ x ∈ S, z < x.2.2)

set_option maxRecDepth 100000 in
set_option maxHeartbeats 2000000 in
theorem first_short {w : World} {v : Value} {l : List Et} (h : PE w v l) (hwe : ∀ k, k < l.length → We (ge l k)) (hl : l.length ≤ 400) : Calls Tryz.prog 6 #[v] w (Tr w) := by
  have H := Lib.hid h
  have HW := Lib.hid hwe
  obtain ⟨A, c, hv, _⟩ := h
  obtain ⟨n, hn⟩ : ∃ n, l.length = n := ⟨_, rfl⟩
  rw [hn] at hl hv
  subst hv
  have HN := Lib.hid hn
  clear hn hwe
  have hl' : (n : Int) ≤ 400 := by omega
  go_enter Tryz.func6, Tryz.ntmps6
  go_wp2_with fail
  refine (awake_any _).mono ?_
  rintro e wa ⟨rfl, hba⟩
  have HBA := Lib.hid hba
  clear hba
  go_wp2_with fail
  refine (new_bag _).mono ?_
  rintro e w1 ⟨b, O, rfl, hB1, hO1, hb1⟩
  have hs1 := (Bs.of_made hB1 hO1 hb1).down HBA.out.size
  have hp1 := (H.out.below HBA.out).below hb1
  have HS1 := Lib.hid hs1
  have HP1 := Lib.hid hp1
  have hoff : 0 < l.length → ∀ g, (Value.slice A n c).ownBlock = some g → ¬ O g := fun hn g e hO => by
    have := H.out.lt hn g e
    have := hs1.low g hO
    omega
  have HOF := Lib.hid hoff
  have HB1 := Lib.hid (HBA.out.trans (hb1.mono HBA.out.size))
  clear hB1 hO1 hb1 hs1 hp1 hoff
  go_wp2_with fail
  refine (put_bag HS1.out.bag HP1.out HOF.out HW.out (by have := HN.out; omega)).mono ?_
  rintro e w2 ⟨rfl, n', hn', hB2, hk2⟩
  obtain ⟨hs2, hb2⟩ := HS1.out.next hB2 hk2
  have hsl : (putsS [] l).length ≤ n := by have h9 := puts_len l []; have := HN.out; simp at h9; omega
  have hsw : ∀ x ∈ putsS [] l, We x := puts_we l (fun y hy => by cases hy) fun x hx => by
    obtain ⟨k, hk, rfl⟩ := List.getElem_of_mem hx
    rw [← ge_get hk]
    exact HW.out k hk
  have hm : n' ≤ 400 := by have := HN.out; omega
  obtain ⟨S, hS⟩ : ∃ S, putsS [] l = S := ⟨_, rfl⟩
  rw [hS] at hs2 hsl hsw
  have HI := Lib.hid (show FstI w b n 0 0 false S w2 from ⟨_, _, hs2, HB1.out.trans hb2, hm, hsl, hsw, fun h => by cases h⟩)
  have hlen := len_bag hs2.bag
  have HLEN := Lib.hid hlen
  clear hB2 hk2 hs2 hb2 hsl hsw hm hn' hS hlen
  go_wp2_with fail
  refine HLEN.out.mono ?_
  rintro e w3 ⟨rfl, hw3⟩
  obtain rfl : w2 = w3 := hw3.symm
  go_wp2_with fail
  go_loopw [4, 5, 6, 7] (fun t4 t5 t6 t7 wr => ∃ (q : Nat) (z : Int) (a : Bool) (S : List Et), q ≤ n ∧ t7 = .int .i64 q ∧ t4 = .int .i64 (S.length : Int) ∧ t5 = .int .i64 z ∧ t6 = .bool a ∧ FstI w b n q z a S wr) (fun _ _ _ t7 _ => n + 1 - (intOf t7).toNat)
  case atStart => exact ⟨0, 0, false, S, Nat.zero_le _, rfl, rfl, rfl, rfl, HI.out⟩
  case round =>
    obtain ⟨q, z, a, T, hq, rfl, rfl, rfl, rfl, O, m, hs, hb, hm, hT, hwT, hz⟩ := hrel
    have hfst := first_bag hs.bag (by omega)
    have HS := Lib.hid hs
    have HB := Lib.hid hb
    have HT := Lib.hid (And.intro hm (And.intro hT (And.intro hwT hz)))
    have hqi : (q : Int) ≤ (n : Int) := by omega
    clear hs hb hm hT hwT hz
    go_wp2_with fail
    refine hfst.mono ?_
    rintro e w4 ⟨mm, cc, rfl, hb4, (⟨rfl, rfl, rfl⟩ | ⟨rfl, hmin, hpos⟩)⟩
    · have HS4 := Lib.hid (HS.out.below hb4)
      have HB4 := Lib.hid (HB.out.trans (hb4.mono HB.out.size))
      clear hfst hb4
      have hlen := len_bag HS4.out.bag
      have HLEN := Lib.hid hlen
      clear hlen
      go_wp2_with fail
      refine HLEN.out.mono ?_
      rintro e w9 ⟨rfl, hw9⟩
      obtain rfl : w4 = w9 := hw9.symm
      go_wp2_with fail
      go_ret
      exact ⟨rfl, HB4.out⟩
    · have HS4 := Lib.hid (HS.out.below hb4)
      have HB4 := Lib.hid (HB.out.trans (hb4.mono HB.out.size))
      obtain ⟨hm, hT, hwT, hz⟩ := HT.out
      have hcut := cut_bag HS4.out.bag (by omega) mm (by obtain ⟨x, hx, rfl⟩ := hmin.1; exact (hwT x hx).2.2)
      have hless := cut_less hmin
      have HMIN := Lib.hid hmin
      clear hfst hb4 hmin
      go_wp2_with fail
      refine hcut.mono ?_
      rintro e w5 ⟨rfl, hB5, hk5⟩
      obtain ⟨hs5, hb5⟩ := HS4.out.next hB5 hk5
      obtain ⟨T', hT'⟩ : ∃ T', cutS T mm = T' := ⟨_, rfl⟩
      rw [hT'] at hs5 hless
      have hI : FstI w b n (q + 1) mm true T' w5 := ⟨_, _, hs5, HB4.out.trans hb5, hm, by omega, fun x hx => hwT x (cut_sub x (by rw [hT']; exact hx)), fun _ x hx => cut_above x (by rw [hT']; exact hx)⟩
      have HI5 := Lib.hid hI
      have h1 : ¬ ((T.length : Int) - (T'.length : Int) < 1) := by omega
      have hwr : IntKind.i64.wrap ((T.length : Int) - ((T.length : Int) - (T'.length : Int))) = (T'.length : Int) := by rw [show (T.length : Int) - ((T.length : Int) - (T'.length : Int)) = (T'.length : Int) by omega]; exact wrap_small _ (by omega) (by omega)
      have hrz : a = true → ¬ mm ≤ z := fun ha => by
        obtain ⟨x, hx, e⟩ := HMIN.out.1
        have := hz ha x hx
        omega
      clear hB5 hk5 hs5 hb5 hI hcut
      rw [hT']
      cases a with
      | true =>
        have hrz' := hrz rfl
        clear hrz hz
        go_wp2_with fail
        go_roundw
        case rel => exact ⟨q + 1, mm, true, T', by omega, by go_num, rfl, rfl, rfl, HI5.out⟩
        case measure => simp [intOf] <;> omega
      | false =>
        clear hrz hz
        go_wp2_with fail
        go_roundw
        case rel => exact ⟨q + 1, mm, true, T', by omega, by go_num, rfl, rfl, rfl, HI5.out⟩
        case measure => simp [intOf] <;> omega
end Go.Proofs.YtfcdgfjpmcapkaaGreat
