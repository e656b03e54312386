/- Walks of the method by which new texts come into a book. -/
import Derived.Test.YtepelfigcoohiaaC
import Derived.StillTailTactics
import Derived.OwnWalk
import Derived.RangeFuncNested
import Derived.RangeFuncBox
import Derived.Shelf.RegionOpen
namespace Go.Proofs.Ytepelfigcoohiaa
open Go.ChangeShapes Go.WideShapes Go.ChangeAt Go.RowKit Go.Maps Go.Shelf
set_option linter.unusedVariables false

theorem grown_set (w : World) (a : Addr) (u : Value) : w.grownBy (w.setCell a u) (some a.block) :=
  ⟨rfl, rfl, rfl, by simp, fun k _ hk => Below.heap_setCell _ _ _ _ (fun e => hk (by rw [e]))⟩

/-- where a book's row lies behind a turn -/
def Loc (n : Nat) (v v' : Value) : Prop := v'.ownBlock = v.ownBlock ∨ ∃ g, v'.ownBlock = some g ∧ n ≤ g
/-- a book that has turned: what was no book's lies as it lay -/
def Turn (w : World) (b m : Nat) (sv : Value) (L : List ByteArray) (w' : World) : Prop := ∃ sv', Bk w' b m sv' L ∧ Loc w.heap.size sv sv' ∧ Keep (Off b m sv) w w'

theorem Turn.refl {w : World} {b m : Nat} {sv : Value} {L : List ByteArray} (h : Bk w b m sv L) : Turn w b m sv L w := ⟨sv, h, .inl rfl, Keep.refl _ _⟩
theorem Turn.step {w w1 w2 : World} {b m : Nat} {sv sv1 : Value} {L1 L2 : List ByteArray} (h1 : Bk w1 b m sv1 L1) (h2 : Loc w.heap.size sv sv1) (h3 : Keep (Off b m sv) w w1) (h : Turn w1 b m sv1 L2 w2) : Turn w b m sv L2 w2 := by
  obtain ⟨sv2, k1, k2, k3⟩ := h
  refine ⟨sv2, k1, ?_, h3.trans k3 fun i hi hp => ⟨hp.1, hp.2.1, fun e => ?_⟩⟩
  · rcases k2 with e | ⟨g, e, hg⟩
    · rcases h2 with e2 | ⟨g, e2, hg⟩
      · exact .inl (e.trans e2)
      · exact .inr ⟨g, e.trans e2, hg⟩
    · exact .inr ⟨g, e, Nat.le_trans h3.size hg⟩
  · rcases h2 with e2 | ⟨g, e2, hg⟩
    · exact hp.2.2 (e2.symm.trans e)
    · rw [e] at e2
      injection e2 with e2
      omega

theorem Turn.pre {w w1 w2 : World} {b m : Nat} {sv : Value} {L2 : List ByteArray} (hb : Below w.heap.size w w1) (h : Turn w1 b m sv L2 w2) : Turn w b m sv L2 w2 := by
  obtain ⟨sv2, k1, k2, k3⟩ := h
  refine ⟨sv2, k1, ?_, (Keep.of_below hb).trans k3 fun _ _ h => h⟩
  rcases k2 with e | ⟨g, e, hg⟩
  · exact .inl e
  · exact .inr ⟨g, e, Nat.le_trans hb.size hg⟩

theorem bk_step {w1 w2 w3 : World} {b m : Nat} {sv v' : Value} {L : List ByteArray} {s : ByteArray} {D : Dt} {o : Obj} (hB : Bk w1 b m sv L) (hs : ¬ s ∈ L)
    (hmap : w2.ownsMap Try.prog 9 (plainElem Try.prog 3) m (L.length + 1) (D.put (key s) (.lit (.int .i64 (L.length : Int))))) (hnum : Num D L) (hg : w1.grownBy w2 (some m))
    (hrow : w3.ownsRow 0 9 1 v' (L.length + 1) (L.map Value.string ++ [.string s])) (hg2 : (w2.alloc o).grownBy w3 sv.ownBlock) (hloc : v'.ownBlock = sv.ownBlock ∨ v'.ownBlock = some (w2.alloc o).heap.size) :
    Turn w1 b m sv (L ++ [s]) (w3.setCell ⟨b, 2, none⟩ v') := by
  have hlb := hB.ltb
  have hlm := hB.ltm
  have z1 := hg.size
  have z2 : w2.heap.size < w3.heap.size := by have := hg2.size; simp at this; omega
  have hvb : v'.ownBlock ≠ some b := by
    intro e
    rcases hloc with h | h
    · exact hB.br (h.symm.trans e)
    · rw [e] at h; injection h with h; simp at h; omega
  have hvm : v'.ownBlock ≠ some m := by
    intro e
    rcases hloc with h | h
    · exact hB.mr (h.symm.trans e)
    · rw [e] at h; injection h with h; simp at h; omega
  have b2 : w2.heap[b]? = w1.heap[b]? := hg.block b hlb (fun e => hB.bm (by injection e))
  have b3 : w3.heap[b]? = w1.heap[b]? := ((hg2.block b (by simp; omega) (fun e => hB.br e.symm)).trans (Below.heap_alloc _ _ _ (by omega))).trans b2
  have m3 : w3.heap[m]? = w2.heap[m]? := (hg2.block m (by simp; omega) (fun e => hB.mr e.symm)).trans (Below.heap_alloc _ _ _ (by omega))
  refine ⟨v', ⟨?_, ⟨_, ?_, num_snoc hnum hs⟩, ?_, ?_⟩, ?_, ?_⟩
  · have h0 := b3.trans hB.blk
    simp [World.setCell, Array.getElem?_modify, h0]
  · rw [List.length_append]
    have := hmap.lt
    obtain ⟨es, clock, hb, r⟩ := hmap
    exact ⟨es, clock, by rw [Below.heap_setCell _ _ _ _ (fun e => hB.bm e.symm)]; exact m3.trans hb, r⟩
  · have := hrow.kept (grown_set w3 ⟨b, 2, none⟩ v') (.inr hvb)
    simpa using this
  · rw [List.nodup_append]
    exact ⟨hB.nodup, by simp, fun x hx y hy e => by simp at hy; subst hy; subst e; exact hs hx⟩
  · rcases hloc with h | h
    · exact .inl h
    · exact .inr ⟨_, h, by simp; omega⟩
  · refine ⟨hg2.os.trans hg.os, hg2.tape.trans hg.tape, hg2.output.trans hg.output, by simp; omega, fun k hk hp => ?_⟩
    rw [Below.heap_setCell _ _ _ _ hp.1]
    exact ((hg2.block k (by simp; omega) (fun e => hp.2.2 e.symm)).trans (Below.heap_alloc _ _ _ (by omega))).trans (hg.block k hk (fun e => hp.2.1 (by injection e)))

theorem undrew {w w' : World} {row : Option Nat} (h : w.drew.grownBy w' row) : w.grownBy w' row := ⟨h.os, h.tape, h.output, h.size, h.block⟩

theorem bk_mid {w1 w2 : World} {b m : Nat} {sv : Value} {L : List ByteArray} (h : Bk w1 b m sv L) (hg : w1.grownBy w2 (some m)) : w2.cell? ⟨b, 2, none⟩ = some sv ∧ w2.ownsRow 0 9 1 sv L.length (L.map Value.string) := by
  refine ⟨(World.cell?_of_block (a := ⟨b, 2, none⟩) (hg.block b h.ltb (fun e => h.bm (by injection e)))).trans h.cells.2.2.1, h.row.kept hg (.inr h.mr)⟩

theorem bk_mid2 {w1 w2 w3 : World} {b m : Nat} {sv : Value} {L : List ByteArray} {o : Obj} (h : Bk w1 b m sv L) (hg : w1.grownBy w2 (some m)) (hg2 : (w2.alloc o).grownBy w3 sv.ownBlock) : w3.cell? ⟨b, 2, none⟩ = some sv ∧ w3.frozen? ⟨b, 2, none⟩ = false := by
  have hlb := h.ltb
  have z1 := hg.size
  have b3 : w3.heap[b]? = w1.heap[b]? := ((hg2.block b (by simp; omega) (fun e => h.br e.symm)).trans (Below.heap_alloc _ _ _ (by omega))).trans (hg.block b hlb (fun e => h.bm (by injection e)))
  exact ⟨(World.cell?_of_block (a := ⟨b, 2, none⟩) b3).trans h.cells.2.2.1, (World.frozen?_of_block (a := ⟨b, 2, none⟩) b3).trans h.cells.2.2.2⟩

def AddR (w : World) (b m : Nat) (sv : Value) (L : List ByteArray) (e : Ending) (w' : World) : Prop := e = .returned (.tuple #[]) ∧ Turn w b m sv L w'

set_option maxHeartbeats 1000000 in
theorem add_any {w : World} {b m : Nat} {sv : Value} {L : List ByteArray} (h : Bk w b m sv L) (v : Value) (F : List ByteArray) (hv : SR w v F) (hoff : ∀ g, v.ownBlock = some g → Off b m sv g)
    (hF : ∀ s ∈ F, s.size ≤ 140737488355328 ∧ ¬ s ∈ L) (hnd : F.Nodup) (hlen : L.length + F.length ≤ 65536) : Calls Try.prog 36 #[.pointer (some ⟨b, 0, none⟩), v] w (AddR w b m sv (L ++ F)) := by
  obtain ⟨i0, hi, hz0, hz1, hz2⟩ := info_parts info9
  have HV := Lib.hid hv
  obtain ⟨A, c, rfl, hv2⟩ := hv
  obtain ⟨n, hn⟩ : ∃ n, F.length = n := ⟨_, rfl⟩
  have HN := Lib.hid hn
  have HO := Lib.hid hoff
  have HF := Lib.hid hF
  have HD := Lib.hid hnd
  have HB := Lib.hid h
  rw [hn] at hlen ⊢
  clear hoff hF hnd h hn hv2
  go_enter Try.func36, Try.ntmps36
  go_wp2
  go_loopw [8] (fun i wr => ∃ k : Nat, k ≤ n ∧ i = .int .i64 k ∧ Turn w b m sv (L ++ F.take k) wr) (fun i _ => n - (intOf i).toNat)
  case atStart => exact ⟨0, Nat.zero_le _, rfl, by simpa using Turn.refl HB.out⟩
  case round =>
    obtain ⟨k, hk, rfl, sv1, hb1, hl1, hk1⟩ := hrel
    have HB1 := Lib.hid hb1
    have HL1 := Lib.hid hl1
    have HK1 := Lib.hid hk1
    clear hl1
    by_cases hlt : k < n
    · have hkF : k < F.length := by rw [HN.out]; exact hlt
      obtain ⟨A', c', hA, hv3⟩ := HV.out.keep hk1 fun g hg _ => HO.out g hg
      injection hA with hA1 hA2 hA3
      subst hA1
      subst hA3
      obtain ⟨ad, rfl, hg, hc⟩ := hv3 (by omega)
      have hck := hc k hkF
      obtain ⟨s, hs⟩ : ∃ s, F[k] = s := ⟨_, rfl⟩
      rw [hs] at hck
      have hsz := (HF.out s (by rw [← hs]; exact List.getElem_mem _)).1
      have hkey' := hkey s (by unfold maxLen; omega)
      have hnew : ¬ s ∈ L ++ F.take k := by
        rw [List.mem_append]
        rintro (h1 | h1)
        · exact (HF.out s (by rw [← hs]; exact List.getElem_mem _)).2 h1
        · obtain ⟨j, hj, e⟩ := List.mem_iff_getElem.1 h1
          simp only [List.length_take] at hj
          rw [List.getElem_take, ← hs] at e
          have := (List.getElem_inj HD.out).1 e
          omega
      have hL1 : (L ++ F.take k).length = L.length + k := by simp; omega
      have hTk : L ++ F.take (k + 1) = (L ++ F.take k) ++ [s] := by rw [List.take_succ_eq_append_getElem hkF, hs, List.append_assoc]
      have HNEW := Lib.hid hnew
      have HTK := Lib.hid hTk
      have HLL := Lib.hid hL1
      obtain ⟨L1, hLL⟩ : ∃ L1, L ++ F.take k = L1 := ⟨_, rfl⟩
      rw [hLL] at HB1 HTK HLL HNEW
      clear hc hv3 hs hnew hL1 hTk hk1 hb1 hLL
      go_wp2_with (go_at_call 39; refine (clone_any s _ hsz).mono ?_; rintro e w1 ⟨rfl, hb⟩)
      have hB2 := HB1.out.below hb
      have HB2 := Lib.hid hB2
      obtain ⟨c0, c1, c2, f2⟩ := hB2.cells
      obtain ⟨D, hown, hnum⟩ := hB2.map
      obtain ⟨A1, q1, rfl, _⟩ := hB2.sr
      have hrow := hB2.row
      have hll : L1.length ≤ 65535 := by have := HLL.out; omega
      have hll2 : L1.length < maxLen := by unfold maxLen; omega
      have HNUM := Lib.hid hnum
      have HBE := Lib.hid hb
      clear hB2 hnum hb
      go_still_tail 10, (by kernel_rfl)
      change wpList _ _ _ _ _ w1.drew
      have c0' : w1.drew.cell? ⟨b, 0, none⟩ = _ := c0
      go_wp2_with (first | (at_mapUpdate; refine wpList_mapUpdate_own _ rfl _ _ _ 53 rfl 9 3 law9 Try.underlying53 _ m L1.length _ rfl hown.drew hll2 _ _ _ rfl rfl hkey' _ [] (plainElem_int Try.underlying3 (WalkArith.wf_i64 (by omega))) ?_; intro w2 hown2 hg2; obtain ⟨d2, hrow2⟩ := bk_mid HB2.out (undrew hg2)) | (at_builtin; refine wpList_append_own_at _ rfl _ _ 30 rfl 0 9 i0 (.string ⟨#[]⟩) 1 16 Try.underlying30 hi hz0 hz1 hz2 rfl (by decide) _ _ _ rfl (hrow2.alloc _) ⟨w2.heap.size, 0, none⟩ 1 1 [.string s] rfl rfl (cell_one_new _ _ _) (by simp [Value.oneCell']) (by unfold maxLen; omega) (by omega) (Nat.zero_le _) ?_; intro v' w3 hown' hgrow hnil hloc; obtain ⟨g', cap', rfl⟩ := ownsRow_succ hown'; obtain ⟨d3, e3⟩ := bk_mid2 HB2.out (undrew hg2) hgrow))
      have HT : Turn w1 b m _ _ _ := bk_step HB2.out HNEW.out hown2 HNUM.out (undrew hg2) hown' hgrow hloc
      go_roundw
      case rel => exact ⟨k + 1, by omega, by go_num, Turn.step HB1.out HL1.out HK1.out (by rw [HTK.out]; exact Turn.pre HBE.out HT)⟩
      case measure => simp [intOf]; omega
    · obtain rfl : n = k := by omega
      go_wp2
      go_end0
      refine ⟨rfl, ?_⟩
      rw [List.take_of_length_le (by have := HN.out; omega)] at hb1
      exact ⟨sv1, hb1, HL1.out, HK1.out⟩
end Go.Proofs.Ytepelfigcoohiaa
