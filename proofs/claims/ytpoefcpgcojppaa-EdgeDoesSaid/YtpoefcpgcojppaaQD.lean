/- Rows of bytes among the arguments, opened. -/
import Derived.Test.YtpoefcpgcojppaaQC
import Derived.Test.YtpoefcpgcojppaaPP
namespace Go.Proofs.Ytpoefcpgcojppaa
open Go.ChangeShapes Go.WideShapes Go.ChangeAt Go.RowKit Go.Deep Go.Joins
set_option linter.unusedVariables false

theorem open_bytes {H : Type} {enc : TypeId × Value → H} {w : World} {n : Nat} {V : Value} {x : DataW H × List MemPlace} (h : DataW.trod enc Try.prog w 0 (fun _ => true) true n 34 [V] = some x) :
    ∃ l, BR w V l ∧ CapOk V ∧ ((∀ n ∈ x.1.weights Try.prog 34, n ≤ reachBytes) → l.length ≤ reachBytes) := by
  rcases open_slice1 Try.underlying34 cells5 h with ⟨hcs, hx⟩ | ⟨a, len, cap, m, n', Vs, D, Pl, hcs, _, hl, hm, hmm, rfl, hx⟩
  · obtain rfl : V = .slice none 0 0 := by simpa using hcs
    exact ⟨[], BR.nil _ _ _, cap_nil, fun _ => Nat.zero_le _⟩
  · obtain rfl : V = .slice (some a) len cap := by simpa using hcs
    simp only [if_true] at hmm
    subst hmm
    obtain ⟨Lf, hLf⟩ := choose_lt (α := UInt8) (p := fun i b => Vs i = .int .u8 (b.toNat : Int)) (n := len) (fun i hi => by
      obtain ⟨k0, f0, g0, h0⟩ := DataW.trod_int Try.underlying5 (hx i (by omega)).2
      injection f0 with f0
      simp only [Lit.wf, Bool.and_eq_true, decide_eq_true_eq, show IntKind.u8.min = 0 from rfl, show IntKind.u8.max = 255 from rfl] at h0
      refine ⟨UInt8.ofNat k0.toNat, ?_⟩
      rw [f0, UInt8.toNat_ofNat']
      congr 1
      omega)
    have hlen : ((List.range len).map Lf).length = len := by simp
    refine ⟨(List.range len).map Lf, ⟨some a, m, by rw [hlen], fun hn => ⟨a, rfl, ?_, fun j u hj => ?_⟩⟩, ?_, fun hw => ?_⟩
    · rw [hlen] at hn
      have := World.block_lt_of_cell? _ _ (hx 0 (by omega)).1
      rwa [block_add] at this
    · have hj' := (List.getElem?_eq_some_iff.1 hj).1
      rw [byC_len, hlen] at hj'
      rw [(hx j (by omega)).1, hLf j hj', ← hj]
      simp [byC, hj']
    · intro A n c e
      injection e with e1 e2 e3
      subst e1 e2 e3
      exact ⟨hl, fun h => by cases h⟩
    · have h1 := hw (((List.map D (List.range len)).length + (List.map (fun j => D (len + j)) (List.range (m - len))).length) * Try.prog.bytesOf 5) (by simp [DataW.weights, Try.underlying34])
      rw [bytes5] at h1
      simp at h1
      rw [hlen]
      omega

/-- arguments that are only read, a plain result -/
theorem post_read {H : Type} {enc : TypeId × Value → H} {P : Program} {f : Func} {s : ChangeSpec} {W W' : World} {args : Array Value} {v : Value} {ds gs : List (DataW H)} {before pa pv : List MemPlace}
    (hW : DataW.Whole enc P f.params.toList s.vars false W args.toList ds gs before)
    (hres : ∀ (b : Nat) (sp : Nat → Bool) (hd : Bool), DataW.TrodAll enc P W' b sp hd f.resultTypes.toList (v.resultList f.resultTypes.size) (s.fn H (ds ++ gs)).results [])
    (hargs : DataW.TrodAll enc P W' 0 (fun b => decide (b < W.heap.size)) true f.params.toList args.toList (s.fn H (ds ++ gs)).args pa)
    (hvars : DataW.TrodVars enc P W' (fun b => decide (b < W.heap.size)) s.vars (s.fn H (ds ++ gs)).vars pv)
    (hps : before = pa ++ pv) (hb : Below W.heap.size W W') : s.post enc P f false true false false W args v W' := by
  refine ⟨ds, gs, before, [], pa, pv, hW, hres _ _ _, hargs, hvars, World.keptBut_mono (fun p hp => ⟨hp, ?_⟩) (hb.frame (· ∈ before)), fun h => by cases h⟩
  rw [hps, List.mem_append] at hp
  exact .inr hp
theorem sz_of {e : Ed} (h : SzB e) : SzE e := by
  have hr := reachBytes_lt
  obtain ⟨h1, h2, h3, h4, h5⟩ := h
  exact ⟨by omega, by omega, by omega, by omega, fun p hp => ⟨by have := (h5 p hp).1; omega, by have := (h5 p hp).2; omega⟩⟩
end Go.Proofs.Ytpoefcpgcojppaa
