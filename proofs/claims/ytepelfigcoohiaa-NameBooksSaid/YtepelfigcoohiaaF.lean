/- Walk of the method that numbers texts. -/
import Derived.Test.YtepelfigcoohiaaE
namespace Go.Proofs.Ytepelfigcoohiaa
open Go.ChangeShapes Go.WideShapes Go.ChangeAt Go.RowKit Go.Maps Go.Shelf
set_option linter.unusedVariables false

/-- the texts of a book behind a call -/
def bookL (L l : List ByteArray) : List ByteArray := L ++ fr L l
/-- the numbers that are told -/
def numsL (L l : List ByteArray) : List Int := l.map fun s => (numOf (bookL L l) s : Int)

theorem take_set_succ {α : Type} : ∀ (l : List α) (k : Nat) (v : α), k < l.length → (l.set k v).take (k + 1) = l.take k ++ [v]
  | [], k, v, h => by simp at h
  | x :: l, 0, v, h => by simp
  | x :: l, k + 1, v, h => by simp; exact take_set_succ l k v (by simpa using h)

/-- what is told of texts that come -/
def OfR (b m : Nat) (sv : Value) (L l : List ByteArray) (w : World) (e : Ending) (w' : World) : Prop :=
  (L.length + (fr L l).length ≤ 65536 ∧ ∃ v, e = .returned (.tuple #[v, .int .i64 0]) ∧ w'.ownsRow w.heap.size 3 1 v l.length ((numsL L l).map (Value.int .i64)) ∧ Turn w b m sv (bookL L l) w') ∨
  (65536 < L.length + (fr L l).length ∧ e = .returned (.tuple #[.slice none 0 0, .int .i64 3]) ∧ Below w.heap.size w w')

theorem Turn.post {w w1 w2 : World} {b m : Nat} {sv : Value} {L2 : List ByteArray} (h : Turn w b m sv L2 w1) (hb : Below w1.heap.size w1 w2) : Turn w b m sv L2 w2 := by
  obtain ⟨sv2, k1, k2, k3⟩ := h
  exact ⟨sv2, k1.below hb, k2, k3.trans (q := fun _ => True) (Keep.of_below hb) fun _ _ _ => trivial⟩

theorem own_off {w w1 : World} {b m : Nat} {sv v : Value} {L : List ByteArray} {e : TypeId} {n : Nat} {xs : List Value} (h : Bk w b m sv L) (hr : w1.ownsRow w.heap.size e 1 v n xs) (g : Nat) (hg : v.ownBlock = some g) : Off b m sv g :=
  h.off (hr.lt g hg).1

theorem loc_off {n b m : Nat} {sv sv' : Value} {k : Nat} (h : Loc n sv sv') (ho : Off b m sv k) (hk : k < n) : Off b m sv' k := by
  refine ⟨ho.1, ho.2.1, fun e => ?_⟩
  rcases h with h | ⟨g, h, hg⟩
  · exact ho.2.2 (h.symm.trans e)
  · rw [e] at h; injection h with h; omega

theorem fresh_yes {w : World} {b m : Nat} {sv : Value} {L : List ByteArray} (h : Bk w b m sv L) (v : Value) (l : List ByteArray) (hv : SR w v l)
    (hl : ∀ s ∈ l, s.size ≤ 140737488355328) (hlen : L.length ≤ 65536) (hll : l.length ≤ 1000000) (hfit : L.length + (fr L l).length ≤ 65536) :
    Calls Try.prog 35 #[.pointer (some ⟨b, 0, none⟩), v] w fun e w' => Below w.heap.size w w' ∧ ∃ v, e = .returned (.tuple #[v, .int .i64 0]) ∧ w'.ownsRow w.heap.size 9 1 v (fr L l).length ((fr L l).map Value.string) := by
  refine (fresh_any h v l hv hl hlen hll).mono ?_
  rintro e w1 ⟨hb1, ⟨_, fv, rfl, hrow1⟩ | ⟨hc, _⟩⟩
  · exact ⟨hb1, fv, rfl, hrow1⟩
  · omega

set_option maxHeartbeats 2000000 in
theorem of_any {w : World} {b m : Nat} {sv : Value} {L : List ByteArray} (h : Bk w b m sv L) (v : Value) (l : List ByteArray) (hv : SR w v l) (hoff : 0 < l.length → ∀ g, v.ownBlock = some g → Off b m sv g)
    (hl : ∀ s ∈ l, s.size ≤ 140737488355328) (hlen : L.length ≤ 65536) (hll : l.length ≤ 1000000) : Calls Try.prog 15 #[.pointer (some ⟨b, 0, none⟩), v] w (OfR b m sv L l w) := by
  obtain ⟨i0, hi, hz0, hz1, hz2⟩ := info_parts info3
  have HB := Lib.hid h
  have HV := Lib.hid hv
  have HO := Lib.hid hoff
  have HL := Lib.hid hl
  obtain ⟨A, c, rfl, hv2⟩ := hv
  clear hl h hv2 hoff
  by_cases hfit : L.length + (fr L l).length ≤ 65536
  · have HFIT := Lib.hid hfit
    obtain ⟨M, hM⟩ : ∃ M, M = madeCells (Value.int .i64 0).cells (((l.length : Nat) : Int).toNat * i0.size) := ⟨_, rfl⟩
    have hMs : M.size = l.length := by rw [hM, size_madeCells, hz1]; simp
    have hmk : ∀ W : World, (Instr.makeSlice 32 (.int .i64 (l.length : Int)) (.int .i64 (l.length : Int))).run Try.prog W = .ok (.slice (some ⟨W.heap.size, 0, none⟩) l.length l.length) (W.alloc (.cells M 3)) := fun W => by
      have h := run_make (P := Try.prog) W 32 3 i0 (.int .i64 0) Try.underlying32 hi hz0 .i64 .i64 (l.length : Int) (l.length : Int) (by omega) (by omega) (by rw [hz2]; omega) (by omega)
      rw [← hM] at h
      simpa using h
    have HMS := Lib.hid hMs
    clear hM hfit hMs hz0 hz1 hz2
    go_enter Try.func15, Try.ntmps15
    go_wp2_with (go_at_call 34; refine (made_yes HB.out).mono ?_; rintro e w' ⟨rfl, rfl⟩)
    refine (fresh_yes HB.out _ l HV.out HL.out hlen hll HFIT.out).mono ?_
    rintro e w1 ⟨hb1, fv, rfl, hrow1⟩
    have HB1 := Lib.hid hb1
    have HR1 := Lib.hid hrow1
    clear hb1 hrow1
    go_wp2_with fail
    refine (add_any (HB.out.below HB1.out) fv (fr L l) (SR.of_own HR1.out) (own_off HB.out HR1.out) (fun s hs => ⟨HL.out s (mem_fr.1 hs).1, (mem_fr.1 hs).2⟩) (nodup_fr L l) HFIT.out).mono ?_
    rintro e w2 ⟨rfl, ht⟩
    have HT := Lib.hid (Turn.pre HB1.out ht)
    clear ht
    go_wp2_with fail
    obtain ⟨sv2, hb2, hloc2, hkp2⟩ := HT.out
    have HB2 := Lib.hid hb2
    have hsr2 := HV.out.keep2 hkp2 HO.out
    have HSR2 := Lib.hid hsr2
    have HSZ := Lib.hid hkp2.size
    obtain ⟨G, hG⟩ : ∃ G, w2.heap.size = G := ⟨_, rfl⟩
    have HG := Lib.hid hG
    clear hb2 hloc2 hkp2 hsr2
    rw [hG]
    clear hG
    go_loopw [31] (fun i wr => ∃ k : Nat, k ≤ l.length ∧ i = .int .i64 k ∧ Below G w2 wr ∧ ∃ cur : Array Value, cur.size = l.length ∧ wr.heap[G]? = some (.cells cur 3 (0, 0)) ∧ cur.toList.take k = ((numsL L l).map (Value.int .i64)).take k) (fun i _ => l.length - (intOf i).toNat)
    case atStart => exact ⟨0, Nat.zero_le _, rfl, (by have := HG.out; subst this; exact (Below.refl _ _).alloc (Nat.le_refl _) _), M, HMS.out, (by have := HG.out; subst this; exact heap_alloc_new _ _), by simp⟩
    case round =>
      obtain ⟨k, hk, rfl, hbr, cur, hcs, hcur, htake⟩ := hrel
      have HTK := Lib.hid htake
      have HBR := Lib.hid hbr
      have HCS := Lib.hid hcs
      have HCUR := Lib.hid hcur
      have hbr' : Below w2.heap.size w2 wr := by rw [HG.out]; exact hbr
      have HBR' := Lib.hid hbr'
      by_cases hlt : k < l.length
      · have hB3 := HB2.out.below hbr'
        obtain ⟨A', c', hA, hv3⟩ := HSR2.out.below hbr'
        injection hA with hA1 hA2 hA3
        subst hA1
        subst hA3
        obtain ⟨ad, rfl, hg, hc⟩ := hv3 (by omega)
        have hck := hc k hlt
        obtain ⟨s, hs⟩ : ∃ s, l[k] = s := ⟨_, rfl⟩
        rw [hs] at hck
        have hsz := HL.out s (by rw [← hs]; exact List.getElem_mem _)
        have hkey' := hkey s (by unfold maxLen; omega)
        obtain ⟨c0, c1, c2, f2⟩ := hB3.cells
        obtain ⟨D, hown, hnum⟩ := hB3.map
        have HNUM := Lib.hid (hnum.2 s).2
        obtain ⟨y, gk⟩ : ∃ y, wr.cell? ⟨G, k, none⟩ = some y := ⟨cur[k]'(by omega), by rw [cell_of_row wr G k cur 3 (0, 0) hcur]; simp⟩
        have gf : wr.frozen? ⟨G, k, none⟩ = false := by simp [World.frozen?, hcur]
        have HS := Lib.hid hs
        clear hc hv3 hs hB3 hnum htake hbr hcs hcur hbr'
        go_wp2_with (at_lookup; refine wpList_lookup_own_int _ rfl _ _ 53 rfl 9 3 .i64 law9 Try.underlying53 Try.underlying3 (zero3 _) m _ D rfl hown _ _ rfl hkey' ?_; intro x1 hat hwc; have HA := Lib.hid hat; clear hat)
        go_roundw
        case rel =>
          have hx : x1 = (numOf (L ++ fr L l) s : Int) := by
            have := HA.out.symm.trans HNUM.out
            simpa using this
          refine ⟨k + 1, by omega, by go_num, HBR.out.setCell (Nat.le_refl _) _, cur.setIfInBounds k (.int .i64 x1), by simpa using HCS.out, ?_, ?_⟩
          · have := HCUR.out
            simp [World.setCell, Array.getElem?_modify, this]
          · have hl1 : k < ((numsL L l).map (Value.int .i64)).length := by simp [numsL]; exact hlt
            rw [Array.toList_setIfInBounds, take_set_succ _ _ _ (by rw [Array.length_toList, HCS.out]; exact hlt), HTK.out, List.take_succ_eq_append_getElem hl1, hx]
            have h2 := HS.out
            simp [numsL, bookL, h2]
        case measure => simp [intOf]; omega
      · obtain rfl : k = l.length := by omega
        go_wp2
        go_ret2
        refine .inl ⟨HFIT.out, _, rfl, ⟨by simp [numsL], .inr ⟨G, l.length, cur, rfl, ?_, HCUR.out, Nat.le_refl _, by unfold maxLen; omega, by simpa using HCS.out, ?_⟩⟩, Turn.post HT.out HBR'.out⟩
        · have h1 := HSZ.out
          have h2 := HG.out
          omega
        · rw [Nat.mul_one, HTK.out, List.take_of_length_le (by simp [numsL])]
  · have HFIT := Lib.hid hfit
    clear hfit
    go_enter Try.func15, Try.ntmps15
    go_wp2_with (first | (go_at_call 34; refine (made_yes HB.out).mono ?_; rintro e w' ⟨rfl, rfl⟩) | (go_at_call 35; refine (fresh_any HB.out _ l HV.out HL.out hlen hll).mono ?_; rintro e w1 ⟨hb1, ⟨hc, _⟩ | ⟨hc, rfl⟩⟩; exact absurd hc HFIT.out; have HC := Lib.hid hc; clear hc))
    go_ret2
    exact .inr ⟨HC.out, rfl, hb1⟩
end Go.Proofs.Ytepelfigcoohiaa
