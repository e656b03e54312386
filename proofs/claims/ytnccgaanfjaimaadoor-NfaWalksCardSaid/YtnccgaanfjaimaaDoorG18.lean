/- Texts PG, one behind the other. -/
import Derived.Test.YtnccgaanfjaimaaDoorG6
import Derived.Test.YtnccgaanfjaimaaDoorG13
import Derived.DataShut
set_option linter.unusedSimpArgs false
set_option linter.unusedVariables false
namespace Go.Proofs.YtnccgaanfjaimaaDoor
open Go.ChangeShapes Go.WideShapes Go.ChangeAt Go.RowKit Go.Deep Go.Joins
set_option linter.unusedVariables false
set_option linter.unusedSimpArgs false

theorem cells3 : Tryd.prog.cellsOf 3 = 1 := by kernel_rfl
theorem read37 : Tryd.prog.readableRec 37 = true := by kernel_rfl
theorem lt37 : 37 < Tryd.prog.types.size := of_decide_eq_true (by kernel_rfl)
theorem bytes3 : Tryd.prog.bytesOf 3 = 8 := by kernel_rfl
set_option maxRecDepth 100000 in
theorem open_ints {H : Type} {enc : TypeId × Value → H} {w : World} {n : Nat} {V : Value} {x : DataW H × List MemPlace} (h : DataW.trod enc Tryd.prog w 0 (fun _ => true) true n 37 [V] = some x) :
    ∃ l, IR w V l ∧ (∀ A m c, V = .slice A m c → m ≤ c) ∧ ((∀ n ∈ x.1.weights Tryd.prog 37, n ≤ reachBytes) → l.length ≤ reachBytes) ∧ (∀ r ∈ l, -2 ^ 63 ≤ r ∧ r < 2 ^ 63) := by
  rcases open_slice1 Tryd.underlying37 cells3 h with ⟨hcs, hx⟩ | ⟨a, len, cap, m, n', Vs, D, Pl, hcs, _, hl, hm, hmm, rfl, hx⟩
  · obtain rfl : V = .slice none 0 0 := by simpa using hcs
    exact ⟨[], ⟨none, 0, rfl, fun h => absurd h (by simp)⟩, fun A m c e => by injection e with _ e1 e2; omega, fun _ => Nat.zero_le _, fun r hr => by cases hr⟩
  · obtain rfl : V = .slice (some a) len cap := by simpa using hcs
    simp only [if_true] at hmm
    subst hmm
    obtain ⟨Lf, hLf⟩ := pick_lt (α := Int) (p := fun i s => Vs i = .int .i64 s ∧ -2 ^ 63 ≤ s ∧ s < 2 ^ 63) (n := len) (fun i hi => by
      obtain ⟨s0, f0, t0, hwf⟩ := DataW.trod_int Tryd.underlying3 (hx i (by omega)).2
      injection f0 with f0
      refine ⟨s0, f0, ?_⟩
      have := (Lit.wf_int_iff _ _).1 hwf
      have e1 : IntKind.i64.min = -2 ^ 63 := by decide
      have e2 : IntKind.i64.max = 2 ^ 63 - 1 := by decide
      omega)
    have hlen : ((List.range len).map Lf).length = len := by simp
    refine ⟨(List.range len).map Lf, ⟨some a, m, by rw [hlen], fun hn => ⟨a, rfl, ?_, fun k hk => ?_⟩⟩, fun A m c e => by injection e with _ e1 e2; omega, fun hw => ?_, fun s hs => ?_⟩
    · rw [hlen] at hn
      have := World.block_lt_of_cell? _ _ (hx 0 (by omega)).1
      rwa [block_add] at this
    · rw [hlen] at hk
      rw [(hx k (by omega)).1, (hLf k hk).1]
      simp
    · have h1 := hw (((List.map D (List.range len)).length + (List.map (fun j => D (len + j)) (List.range (m - len))).length) * Tryd.prog.bytesOf 3) (by simp [DataW.weights, Tryd.underlying37])
      rw [bytes3] at h1
      simp at h1
      rw [hlen]
      omega
    · obtain ⟨i, hi, rfl⟩ := List.mem_map.1 hs
      rw [List.mem_range] at hi
      exact (hLf i hi).2
end Go.Proofs.YtnccgaanfjaimaaDoor
