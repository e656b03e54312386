/- Rows of texts that came in; how many there are. -/
import Derived.Test.YtepelfigcoohiaaM
namespace Go.Proofs.Ytepelfigcoohiaa
open Go.ChangeShapes Go.WideShapes Go.ChangeAt Go.RowKit Go.Maps Go.Shelf
set_option linter.unusedVariables false

/-- the slice v holds just the rows of ls, all below block N -/
def RR (N : Nat) (w : World) (v : Value) (ls : List (List ByteArray)) : Prop :=
  ∃ A c, v = .slice A ls.length c ∧ (0 < ls.length → ∃ ad, A = some ad ∧ ad.block < N ∧ ∀ k (h : k < ls.length), ∃ rv, w.cell? (ad.add k) = some rv ∧ SR w rv ls[k] ∧ (0 < ls[k].length → ∀ g, rv.ownBlock = some g → g < N))

theorem Keep.of_belowN {N : Nat} {w w' : World} (h : Below N w w') : Keep (fun k => k < N) w w' := ⟨h.os, h.tape, h.output, h.size, fun k _ hk => h.block k hk⟩

theorem RR.below {N : Nat} {w w' : World} {v : Value} {ls : List (List ByteArray)} (h : RR N w v ls) (hb : Below N w w') : RR N w' v ls := by
  obtain ⟨A, c, rfl, h⟩ := h
  refine ⟨A, c, rfl, fun hn => ?_⟩
  obtain ⟨ad, rfl, hg, hc⟩ := h hn
  refine ⟨ad, rfl, hg, fun k hk => ?_⟩
  obtain ⟨rv, h1, h2, h3⟩ := hc k hk
  exact ⟨rv, (hb.cell (p := ad.add k) (by rw [block_add]; exact hg)).trans h1, h2.keep2 (Keep.of_belowN hb) h3, h3⟩

/-- how many rows and texts there are -/
def tot (ls : List (List ByteArray)) : Nat := ls.length + (ls.map List.length).sum

theorem sum_take (ls : List (List ByteArray)) (k : Nat) (h : k < ls.length) : ((ls.take (k + 1)).map List.length).sum = ((ls.take k).map List.length).sum + ls[k].length := by
  rw [List.take_succ_eq_append_getElem h]; simp only [List.map_append, List.sum_append, List.map_cons, List.map_nil, List.sum_cons, List.sum_nil]; omega
theorem sum_take_le (ls : List (List ByteArray)) (k : Nat) : ((ls.take k).map List.length).sum ≤ (ls.map List.length).sum := by
  have h : ls.take k ++ ls.drop k = ls := List.take_append_drop k ls
  have h2 : (ls.map List.length).sum = ((ls.take k).map List.length).sum + ((ls.drop k).map List.length).sum := by
    conv => lhs; rw [← h]
    rw [List.map_append, List.sum_append]
  omega

/-- what size answers -/
def SizeR (ls : List (List ByteArray)) (w : World) (e : Ending) (w' : World) : Prop := ∃ n : Int, e = .returned (.int .i64 n) ∧ w = w' ∧ 0 ≤ n ∧ (n ≤ 400 ↔ tot ls ≤ 400)

theorem size_any {N : Nat} {w : World} {v : Value} {ls : List (List ByteArray)} (h : RR N w v ls) (hl : ls.length ≤ 281474976710656) (hls : ∀ l ∈ ls, l.length ≤ 281474976710656) : Calls Try.prog 11 #[v] w (SizeR ls w) := by
  have HR := Lib.hid h
  have HLS := Lib.hid hls
  obtain ⟨A, c, rfl, hr⟩ := h
  clear hls hr
  go_enter Try.func11, Try.ntmps11
  go_wp2
  go_loop [3, 4] (fun n i => ∃ k : Nat, k ≤ ls.length ∧ i = .int .i64 k ∧ ∃ t : Nat, n = .int .i64 t ∧ t = ls.length + ((ls.take k).map List.length).sum ∧ t ≤ 600000000000000) (fun _ i => ls.length - (intOf i).toNat)
  case atStart => exact ⟨0, Nat.zero_le _, rfl, ls.length, rfl, by simp, by omega⟩
  case round =>
    obtain ⟨k, hk, rfl, t, rfl, ht, htb⟩ := hrel
    have HT := Lib.hid ht
    clear ht
    by_cases hlt : k < ls.length
    · by_cases h4 : t ≤ 400
      · obtain ⟨A', c', hA, hr⟩ := HR.out
        injection hA with hA1 hA2 hA3
        subst hA1
        subst hA3
        obtain ⟨ad, rfl, hg, hc⟩ := hr (by omega)
        obtain ⟨rv, hck, ⟨A2, c2, rfl, _⟩, _⟩ := hc k hlt
        have hlk := HLS.out ls[k] (List.getElem_mem _)
        have HS := Lib.hid (sum_take ls k hlt)
        obtain ⟨j, hj⟩ : ∃ j, ls[k].length = j := ⟨_, rfl⟩
        rw [hj] at hck hlk
        have HJ := Lib.hid hj
        have h4' : (t : Int) ≤ 400 := by omega
        clear hc hr hj
        go_wp2
        go_round
        case rel => exact ⟨k + 1, by omega, by go_num, t + j, by go_num, by have := HS.out; have := HJ.out; have := HT.out; omega, by omega⟩
        case measure => simp [intOf]; omega
      · have h4' : (400 : Int) < t := by omega
        have HS := Lib.hid (sum_take_le ls k)
        clear h4
        go_wp2
        go_ret
        exact ⟨t, rfl, rfl, by omega, by have := HS.out; have := HT.out; unfold tot; omega⟩
    · obtain rfl : k = ls.length := by omega
      go_wp2
      go_ret
      refine ⟨t, rfl, rfl, by omega, ?_⟩
      have := HT.out
      rw [List.take_of_length_le (Nat.le_refl _)] at this
      unfold tot
      omega
end Go.Proofs.Ytepelfigcoohiaa
