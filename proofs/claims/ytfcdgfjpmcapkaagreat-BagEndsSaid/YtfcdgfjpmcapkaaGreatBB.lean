/- Maps in memory, told by what they hold. -/
import Derived.Test.YtfcdgfjpmcapkaaGreatHB
import Derived.Test.YtfcdgfjpmcapkaaGreatBA
import Derived.Maps.OwnIn
namespace Go.Proofs.YtfcdgfjpmcapkaaGreat
open Go.ChangeShapes Go.WideShapes Go.ChangeAt Go.RowKit Go.Maps
set_option linter.unusedVariables false

/-- an element reads as itself -/
def RV : Value → Option (DataW Value × List MemPlace) := fun v => some (.held v, [])
def hd (p : Lit × Value) : Lit × DataW Value := (p.1, .held p.2)
def look (C : List (Lit × Value)) (kl : Lit) : Option Value := (C.find? fun p => p.1.sameKey kl).map (·.2)
def off (kl : Lit) (C : List (Lit × Value)) : List (Lit × Value) := C.filter fun p => !p.1.sameKey kl

/-- block b is a map that holds just C -/
def Mp (w : World) (b k : Nat) (C : List (Lit × Value)) : Prop := ∃ es, w.ownsMap Tryz.prog k RV b C.length (.map es) ∧ es.Perm (C.map hd)
/-- .. or no map, and C is empty -/
def MpO (w : World) (o : Option Nat) (k : Nat) (C : List (Lit × Value)) : Prop := match o with | none => C = [] | some b => Mp w b k C

theorem law9 : Keyed Tryz.prog 9 := string_keyed Tryz.underlying9
theorem law3 : Keyed Tryz.prog 3 := int_keyed Tryz.underlying3
def key (s : ByteArray) : Lit := .string s.data.toList
theorem key_inj {s t : ByteArray} (h : key s = key t) : s = t := by
  unfold key at h
  injection h with h
  exact data_inj h
theorem hkey9 (s : ByteArray) (h : s.size ≤ maxLen) : keyOf Tryz.prog 9 (.string s) = some (key s) := WideMaps.keyOf_string_mk Tryz.underlying9 h
theorem hkey3 (n : Int) (h : (Lit.int .i64 n).wf = true) : keyOf Tryz.prog 3 (.int .i64 n) = some (.int .i64 n) := keyOf_int_mk Tryz.underlying3 h

theorem find_perm {V : Type} {l m : List (Lit × V)} (p : l.Perm m) (h : l.Pairwise fun x y => x.1 ≠ y.1) (kl : Lit) : l.find? (fun x => x.1.sameKey kl) = m.find? (fun x => x.1.sameKey kl) := by
  cases hl : l.find? (fun x => x.1.sameKey kl) with
  | none =>
    symm
    rw [List.find?_eq_none] at *
    exact fun x hx => hl x (p.mem_iff.2 hx)
  | some x =>
    have hx := List.mem_of_find?_eq_some hl
    have hs := List.find?_some hl
    cases hm : m.find? (fun x => x.1.sameKey kl) with
    | none => rw [List.find?_eq_none] at hm; exact absurd hs (by simpa using hm x (p.mem_iff.1 hx))
    | some y =>
      have hy := p.mem_iff.2 (List.mem_of_find?_eq_some hm)
      have hy' := List.find?_some hm
      have e : x.1 = y.1 := (WideAt.sameKey_eq hs).trans (WideAt.sameKey_eq hy').symm
      congr 1
      clear hl hm p hs hy'
      induction l with
      | nil => simp at hx
      | cons a r ih =>
        obtain ⟨a1, a2⟩ := List.pairwise_cons.1 h
        rcases List.mem_cons.1 hx with ex | hx'
        · rcases List.mem_cons.1 hy with ey | hy'
          · rw [ex, ey]
          · subst ex; exact absurd e (a1 y hy')
        · rcases List.mem_cons.1 hy with ey | hy'
          · subst ey; exact absurd e.symm (a1 x hx')
          · exact ih a2 hx' hy'
theorem find_hd (C : List (Lit × Value)) (kl : Lit) : (C.map hd).find? (fun x => x.1.sameKey kl) = (C.find? fun x => x.1.sameKey kl).map hd := by
  rw [List.find?_map]; rfl
theorem insert_permV (x : Lit × DataW Value) : ∀ l : List (Lit × DataW Value), (DataW.insert x l).Perm (x :: l)
  | [] => List.Perm.refl _
  | y :: r => by
    unfold DataW.insert
    split
    · exact List.Perm.refl _
    · exact ((insert_permV x r).cons y).trans (List.Perm.swap x y r)

variable {w : World} {b k : Nat} {C : List (Lit × Value)}

theorem own_tight {n : Nat} {D : DataW Value} (h : w.ownsMap Tryz.prog k RV b n D) : w.ownsMap Tryz.prog k RV b (Maps.size D) D := by
  obtain ⟨es, clock, hb, F, _, rfl⟩ := h
  exact ⟨es, clock, hb, F, by simp [Maps.size, length_sorted], rfl⟩
theorem Mp.lt (h : Mp w b k C) : b < w.heap.size := by obtain ⟨es, h, _⟩ := h; exact h.lt
theorem Mp.isMap (h : Mp w b k C) : ∃ es c, w.heap[b]? = some (.map es c) := by obtain ⟨_, ⟨es, c, h, _⟩, _⟩ := h; exact ⟨es, c, h⟩
theorem Mp.keep {w' : World} (h : Mp w b k C) {p : Nat → Prop} (hk : Keep p w w') (hp : p b) : Mp w' b k C := by
  obtain ⟨es, h, hp2⟩ := h
  have hlt := h.lt
  obtain ⟨es', clock, hb, r⟩ := h
  exact ⟨es, ⟨es', clock, (hk.block b hlt hp).trans hb, r⟩, hp2⟩
theorem Mp.below {w' : World} (h : Mp w b k C) (hb : Below w.heap.size w w') : Mp w' b k C := h.keep (p := fun _ => True) (Keep.of_below hb) trivial
theorem Mp.drew (h : Mp w b k C) : Mp w.drew b k C := h
theorem Mp.setCell (h : Mp w b k C) (a : Addr) (ha : b ≠ a.block) (u : Value) : Mp (w.setCell a u) b k C := by
  obtain ⟨es, h1, h2⟩ := h
  exact ⟨es, h1.setCell ha u, h2⟩
theorem Mp.perm {C' : List (Lit × Value)} (h : Mp w b k C) (hp : C.Perm C') : Mp w b k C' := by
  obtain ⟨es, h1, h2⟩ := h
  exact ⟨es, by rw [← hp.length_eq]; exact h1, h2.trans (hp.map hd)⟩
theorem Mp.apart (h : Mp w b k C) (K : Keyed Tryz.prog k) : C.Pairwise fun x y => x.1 ≠ y.1 := by
  obtain ⟨es, h1, h2⟩ := h
  obtain ⟨es', e, hp, _⟩ := h1.entries K
  cases e
  have := (h2.pairwise_iff (R := fun x y => x.1 ≠ y.1) (fun {_ _} hne => Ne.symm hne)).1 hp
  rw [List.pairwise_map] at this
  exact this
theorem Mp.find (h : Mp w b k C) (K : Keyed Tryz.prog k) {es : List (Lit × DataW Value)} (h1 : w.ownsMap Tryz.prog k RV b C.length (.map es)) (h2 : es.Perm (C.map hd)) (kl : Lit) :
    Maps.has (.map es) kl = (look C kl).isSome ∧ ∀ z, (DataW.map es).atKey kl (.held z) = .held ((look C kl).getD z) := by
  obtain ⟨es', e, hp, _⟩ := h1.entries K
  cases e
  have hf := find_perm h2 hp kl
  rw [find_hd] at hf
  refine ⟨?_, fun z => ?_⟩
  · show es.any _ = _
    unfold look
    cases hc : C.find? (fun x => x.1.sameKey kl) with
    | none => rw [hc] at hf; simp only [Option.map_none, Option.isSome_none]; rw [List.any_eq_false]; intro x hx; simpa using List.find?_eq_none.1 hf x hx
    | some y => rw [hc] at hf; simp only [Option.map_some, Option.isSome_some]; exact List.any_eq_true.2 ⟨hd y, List.mem_of_find?_eq_some hf, List.find?_some (p := fun x : Lit × DataW Value => x.1.sameKey kl) hf⟩
  · unfold DataW.atKey
    simp only [hf]
    unfold look
    cases hc : C.find? (fun x => x.1.sameKey kl) with
    | none => rfl
    | some y => rfl
theorem Mp.look_ok (h : Mp w b k C) (K : Keyed Tryz.prog k) {t e : TypeId} (ht : Tryz.prog.underlying t = some (.map k e)) {z : Value} (hz : (zeroValue e).run Tryz.prog w = .ok z w) {ky : Value} {kl : Lit} (hkey : keyOf Tryz.prog k ky = some kl) :
    (Instr.lookup t (.map (some b)) ky true).run Tryz.prog w = .ok (.tuple #[(look C kl).getD z, .bool (look C kl).isSome]) w := by
  obtain ⟨es, h1, h2⟩ := h
  obtain ⟨f1, f2⟩ := Mp.find (C := C) ⟨es, h1, h2⟩ K h1 h2 kl
  obtain ⟨v, ps, hrun, hv⟩ := h1.look_ok K ht hz (zd := .held z) (zp := []) rfl hkey
  rw [f2, ] at hv
  simp only [RV, Option.some.injEq, Prod.mk.injEq, DataW.held.injEq] at hv
  rw [hrun, f1, hv.1]
theorem Mp.look_at (h : Mp w b k C) (K : Keyed Tryz.prog k) {t e : TypeId} (ht : Tryz.prog.underlying t = some (.map k e)) {z : Value} (hz : (zeroValue e).run Tryz.prog w = .ok z w) {ky : Value} {kl : Lit} (hkey : keyOf Tryz.prog k ky = some kl) :
    (Instr.lookup t (.map (some b)) ky false).run Tryz.prog w = .ok ((look C kl).getD z) w := by
  obtain ⟨es, h1, h2⟩ := h
  obtain ⟨f1, f2⟩ := Mp.find (C := C) ⟨es, h1, h2⟩ K h1 h2 kl
  obtain ⟨v, ps, hrun, hv⟩ := h1.lookup K ht hz (zd := .held z) (zp := []) rfl hkey
  rw [f2] at hv
  simp only [RV, Option.some.injEq, Prod.mk.injEq, DataW.held.injEq] at hv
  rw [hrun, hv.1]
theorem MpO.look_ok {o : Option Nat} (h : MpO w o k C) (K : Keyed Tryz.prog k) {t e : TypeId} (ht : Tryz.prog.underlying t = some (.map k e)) {z : Value} (hz : (zeroValue e).run Tryz.prog w = .ok z w) {ky : Value} {kl : Lit} (hkey : keyOf Tryz.prog k ky = some kl) :
    (Instr.lookup t (.map o) ky true).run Tryz.prog w = .ok (.tuple #[(look C kl).getD z, .bool (look C kl).isSome]) w := by
  cases o with
  | none =>
    obtain rfl : C = [] := h
    have := Maps.look_nil true K ht hz hkey
    simpa [look] using this
  | some b => exact Mp.look_ok h K ht hz hkey
theorem MpO.look_at {o : Option Nat} (h : MpO w o k C) (K : Keyed Tryz.prog k) {t e : TypeId} (ht : Tryz.prog.underlying t = some (.map k e)) {z : Value} (hz : (zeroValue e).run Tryz.prog w = .ok z w) {ky : Value} {kl : Lit} (hkey : keyOf Tryz.prog k ky = some kl) :
    (Instr.lookup t (.map o) ky false).run Tryz.prog w = .ok ((look C kl).getD z) w := by
  cases o with
  | none =>
    obtain rfl : C = [] := h
    have := Maps.look_nil false K ht hz hkey
    simpa [look] using this
  | some b => exact Mp.look_at h K ht hz hkey
theorem Mp.len (h : Mp w b k C) {t e : TypeId} (ht : Tryz.prog.underlying t = some (.map k e)) (ty : TypeId) : (Builtin.len_ #[t] ty #[.map (some b)]).run Tryz.prog w = .ok (.int .i64 C.length) w := by
  obtain ⟨es, h1, h2⟩ := h
  rw [h1.len ht ty]
  have : Maps.size (DataW.map es) = C.length := by rw [Maps.size_eq, h2.length_eq]; simp
  rw [this]
theorem hd_off (kl : Lit) (C : List (Lit × Value)) : (C.map hd).filter (fun p => !p.1.sameKey kl) = (off kl C).map hd := by
  unfold off
  rw [List.filter_map]; rfl
theorem Mp.put_of {n : Nat} {es : List (Lit × DataW Value)} {w' : World} {kl : Lit} {v : Value} (h2 : es.Perm (C.map hd)) (h : w'.ownsMap Tryz.prog k RV b n ((DataW.map es).put kl (.held v))) : Mp w' b k ((kl, v) :: off kl C) := by
  refine ⟨DataW.insert (kl, .held v) (es.filter fun p => !p.1.sameKey kl), ?_, ?_⟩
  · have := own_tight h
    have e : Maps.size ((DataW.map es).put kl (.held v)) = ((kl, v) :: off kl C).length := by
      show (DataW.insert (kl, .held v) (es.filter fun p => !p.1.sameKey kl)).length = _
      rw [(insert_permV _ _).length_eq, List.length_cons, (h2.filter _).length_eq, hd_off]
      simp
    rw [e] at this
    exact this
  · refine (insert_permV _ _).trans ?_
    rw [List.map_cons]
    refine List.Perm.cons _ ?_
    rw [← hd_off]
    exact h2.filter _
theorem Mp.del_of {n : Nat} {es : List (Lit × DataW Value)} {w' : World} {kl : Lit} (h2 : es.Perm (C.map hd)) (h : w'.ownsMap Tryz.prog k RV b n ((DataW.map es).del kl)) : Mp w' b k (off kl C) := by
  refine ⟨es.filter fun p => !p.1.sameKey kl, ?_, ?_⟩
  · have := own_tight h
    have e : Maps.size ((DataW.map es).del kl) = (off kl C).length := by
      show (es.filter fun p => !p.1.sameKey kl).length = _
      rw [(h2.filter _).length_eq, hd_off]
      simp
    rw [e] at this
    exact this
  · rw [← hd_off]
    exact h2.filter _
theorem Mp.made (w : World) (k : Nat) : Mp (w.alloc (.map #[] 0)) w.heap.size k [] := ⟨[], World.ownsMap_made w _ k RV, List.Perm.refl _⟩
theorem turned_keep {w' : World} (h : w.mapTurned w' b) : Keep (fun j => j ≠ b) w w' := Keep.of_grown h.grown fun j _ hj e => hj (by cases e; rfl)

section
variable {ops : Array Oper} {rest : List Oper} {o : Oper} {a : Act} {Q : Exit → Act → World → Prop}
theorem wpList_mp_store (hg : o.guard = none) (m x v : Operand) (t : TypeId) (hop : o.op = Op.mapUpdate t m x v)
    (e : TypeId) (K : Keyed Tryz.prog k) (ht : Tryz.prog.underlying t = some (.map k e)) (hm : a.eval m = .map (some b)) (hown : Mp w b k C) (hn : C.length < maxLen) (ky val : Value) (kl : Lit) (hx : a.eval x = ky) (hv : a.eval v = val) (hkey : keyOf Tryz.prog k ky = some kl)
    (hK : ∀ w', Mp w' b k ((kl, val) :: off kl C) → w.mapTurned w' b → wpList Tryz.prog ops Q rest (a.put o.dst undef) w') : wpList Tryz.prog ops Q (o :: rest) a w := by
  obtain ⟨es, h1, h2⟩ := hown
  exact wpList_mapUpdate_in w hg m x v t hop k e K ht RV b _ _ hm h1 hn ky val kl hx hv hkey _ [] rfl fun w' r1 r2 => hK w' (Mp.put_of h2 r1) r2
theorem wpList_mp_delete (hg : o.guard = none) (m x : Operand) (t : TypeId) (hop : o.op = Op.call { callee := Callee.builtin Builtin.delete, args := #[m, x], argTypes := #[t, k] })
    (e : TypeId) (K : Keyed Tryz.prog k) (ht : Tryz.prog.underlying t = some (.map k e)) (hm : a.eval m = .map (some b)) (hown : Mp w b k C) (ky : Value) (kl : Lit) (hx : a.eval x = ky) (hkey : keyOf Tryz.prog k ky = some kl)
    (hK : ∀ w', Mp w' b k (off kl C) → w.mapTurned w' b → wpList Tryz.prog ops Q rest (a.put o.dst (.tuple #[])) w') : wpList Tryz.prog ops Q (o :: rest) a w := by
  obtain ⟨es, h1, h2⟩ := hown
  exact wpList_delete_own w hg m x t k hop e K ht RV b _ _ hm h1 ky kl hx hkey fun w' r1 r2 => hK w' (Mp.del_of h2 r1) r2
end
end Go.Proofs.YtfcdgfjpmcapkaaGreat
