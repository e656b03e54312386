/- The index of entries in memory; walks of what only reads it. -/
import Derived.Test.YtfcdgfjpmcapkaaGreatBD
import Derived.Test.YtfcdgfjpmcapkaaGreatHE
import Derived.Maps.RangeWalk
import Derived.StillTailTactics
namespace Go.Proofs.YtfcdgfjpmcapkaaGreat
open Go.ChangeShapes Go.WideShapes Go.ChangeAt Go.RowKit Go.Maps
set_option linter.unusedVariables false

def stayV (e : En) : Lit × Value := (.int .i64 e.1.2.1, .agg #[.int .i64 e.1.2.2, .int .i64 e.2])
def placeV (e : En) : Lit × Value := (.int .i64 e.2, .agg #[.string e.1.1, .int .i64 e.1.2.1])
def rowV (p : ByteArray × Nat) : Lit × Value := (key p.1, .agg #[.string p.1, .map (some p.2)])
/-- what stands under a key -/
def under (E : List En) (k : ByteArray) : List En := E.filter fun e => decide (e.1.1 = k)

/-- the index: in cells of block b its maps mr, mp and the number that was given last; Ks: keys with their maps; E: entries -/
structure Ix (w : World) (b mr mp : Nat) (Ks : List (ByteArray × Nat)) (E : List En) (n hb : Nat) : Prop where
  blk : w.heap[b]? = some (.cells #[.pointer (some ⟨b, 0, none⟩), .map (some mr), .map (some mp), .int .i64 n, .pointer (some ⟨hb, 0, none⟩)] 66 (0, 0))
  rows : Mp w mr 9 (Ks.map rowV)
  places : Mp w mp 3 (E.map placeV)
  row : ∀ p ∈ Ks, Mp w p.2 3 ((under E p.1).map stayV)
  has : ∀ e ∈ E, ∃ p ∈ Ks, p.1 = e.1.1
  mm : mr ≠ mp
  m2 : ∀ p ∈ Ks, p.2 ≠ mr ∧ p.2 ≠ mp
  nod : (Ks.map (·.2)).Nodup
  wf : ∀ e ∈ E, e.1.1.size ≤ maxLen ∧ (Lit.int .i64 e.1.2.1).wf = true ∧ 1 ≤ e.2 ∧ e.2 ≤ n
  one : E.Pairwise fun x y => sp x.1 y.1 = false
  len : E.length ≤ n

/-- what is the index's -/
def IxO (b mr mp : Nat) (Ks : List (ByteArray × Nat)) (k : Nat) : Prop := k = b ∨ k = mr ∨ k = mp ∨ ∃ p ∈ Ks, p.2 = k

variable {w : World} {b mr mp : Nat} {Ks : List (ByteArray × Nat)} {E : List En} {n hb : Nat}

theorem Ix.lt (h : Ix w b mr mp Ks E n hb) {k : Nat} (hk : IxO b mr mp Ks k) : k < w.heap.size := by
  rcases hk with rfl | rfl | rfl | ⟨p, hp, rfl⟩
  · exact (Array.getElem?_eq_some_iff.1 h.blk).1
  · exact h.rows.lt
  · exact h.places.lt
  · exact (h.row p hp).lt
theorem Ix.keep {w' : World} (h : Ix w b mr mp Ks E n hb) {p : Nat → Prop} (hk : Keep p w w') (hp : ∀ k, IxO b mr mp Ks k → p k) : Ix w' b mr mp Ks E n hb :=
  { h with
    blk := (hk.block b (h.lt (.inl rfl)) (hp b (.inl rfl))).trans h.blk
    rows := h.rows.keep hk (hp mr (.inr (.inl rfl)))
    places := h.places.keep hk (hp mp (.inr (.inr (.inl rfl))))
    row := fun q hq => (h.row q hq).keep hk (hp q.2 (.inr (.inr (.inr ⟨q, hq, rfl⟩)))) }
theorem Ix.below {w' : World} (h : Ix w b mr mp Ks E n hb) (hb' : Below w.heap.size w w') : Ix w' b mr mp Ks E n hb := h.keep (p := fun _ => True) (Keep.of_below hb') fun _ _ => trivial
theorem Ix.cells (h : Ix w b mr mp Ks E n hb) : w.cell? ⟨b, 0, none⟩ = some (.pointer (some ⟨b, 0, none⟩)) ∧ w.cell? ⟨b, 1, none⟩ = some (.map (some mr)) ∧ w.cell? ⟨b, 2, none⟩ = some (.map (some mp)) ∧ w.cell? ⟨b, 3, none⟩ = some (.int .i64 n) ∧ w.cell? ⟨b, 4, none⟩ = some (.pointer (some ⟨hb, 0, none⟩)) ∧ w.frozen? ⟨b, 3, none⟩ = false ∧ w.frozen? ⟨b, 4, none⟩ = false := by
  have hb := h.blk
  refine ⟨?_, ?_, ?_, ?_, ?_, ?_, ?_⟩ <;> simp [World.cell?, World.frozen?, hb]

theorem zero68 (w : World) : (zeroValue 68).run Tryz.prog w = .ok (.agg #[.int .i64 0, .int .i64 0]) w := by kernel_rfl
theorem zero91 (w : World) : (zeroValue 91).run Tryz.prog w = .ok (.agg #[.string ⟨#[]⟩, .map none]) w := by kernel_rfl
theorem zero80 (w : World) : (zeroValue 80).run Tryz.prog w = .ok (.agg #[.string ⟨#[]⟩, .int .i64 0]) w := by kernel_rfl

theorem field91 (W : World) (s : ByteArray) (o : Option Nat) : (Instr.field 91 (.agg #[.string s, .map o]) 1).run Tryz.prog W = .ok (.map o) W := by kernel_rfl
theorem field68 (W : World) (s o : Int) : (Instr.field 68 (.agg #[.int .i64 s, .int .i64 o]) 1).run Tryz.prog W = .ok (.int .i64 o) W := by kernel_rfl

theorem MpO.alloc {o : Option Nat} {k : Nat} {C : List (Lit × Value)} (h : MpO w o k C) (x : Obj) : MpO (w.alloc x) o k C := by
  cases o with
  | none => exact h
  | some b => exact Mp.below h ((Below.refl _ w).alloc (Nat.le_refl _) x)

section
variable {ops : Array Oper} {rest : List Oper} {o : Oper} {a : Act} {Q : Exit → Act → World → Prop}
theorem wpList_mp_look {k : Nat} {C : List (Lit × Value)} (hg : o.guard = none) (m x : Operand) (t : TypeId) (hop : o.op = Op.lookup t m x false) (e : TypeId) (K : Keyed Tryz.prog k) (ht : Tryz.prog.underlying t = some (.map k e)) {z : Value} (hz : (zeroValue e).run Tryz.prog w = .ok z w)
    (mo : Option Nat) (hm : a.eval m = .map mo) (hown : MpO w mo k C) (ky : Value) (kl : Lit) (hx : a.eval x = ky) (hkey : keyOf Tryz.prog k ky = some kl) (v : Value) (hv : (look C kl).getD z = v)
    (hK : wpList Tryz.prog ops Q rest (a.put o.dst v) w) : wpList Tryz.prog ops Q (o :: rest) a w := by
  refine wpList_plain hg fun K' hK' => ?_
  have hrun := MpO.look_at hown K ht hz hkey
  rw [hv] at hrun
  unfold Oper.wp
  simp [execOp, hop, hm, hx, hrun, Result.andThen]
  exact hK' _ _ hK
theorem wpList_mp_look_ok {k : Nat} {C : List (Lit × Value)} (hg : o.guard = none) (m x : Operand) (t : TypeId) (hop : o.op = Op.lookup t m x true) (e : TypeId) (K : Keyed Tryz.prog k) (ht : Tryz.prog.underlying t = some (.map k e)) {z : Value} (hz : (zeroValue e).run Tryz.prog w = .ok z w)
    (mo : Option Nat) (hm : a.eval m = .map mo) (hown : MpO w mo k C) (ky : Value) (kl : Lit) (hx : a.eval x = ky) (hkey : keyOf Tryz.prog k ky = some kl) (v : Value) (c : Bool) (hv : (look C kl).getD z = v) (hc : (look C kl).isSome = c)
    (hK : wpList Tryz.prog ops Q rest (a.put o.dst (.tuple #[v, .bool c])) w) : wpList Tryz.prog ops Q (o :: rest) a w := by
  refine wpList_plain hg fun K' hK' => ?_
  have hrun := MpO.look_ok hown K ht hz hkey
  rw [hv, hc] at hrun
  unfold Oper.wp
  simp [execOp, hop, hm, hx, hrun, Result.andThen]
  exact hK' _ _ hK
end

theorem look_map {α : Type} (f : α → Lit × Value) (L : List α) (kl : Lit) : look (L.map f) kl = (L.find? fun x => (f x).1.sameKey kl).map fun x => (f x).2 := by
  unfold look
  rw [List.find?_map, Option.map_map]
  rfl
theorem same_int (a b : Int) : (Lit.int .i64 a).sameKey (.int .i64 b) = decide (a = b) := by simp [Lit.sameKey]
theorem same_key (a b : ByteArray) : (key a).sameKey (key b) = decide (a = b) := by
  by_cases h : a = b
  · subst h
    simp [key, Lit.sameKey]
  · have : a.data.toList ≠ b.data.toList := fun e => h (data_inj e)
    have h2 : ¬ a.data = b.data := fun e => h (ByteArray.ext e)
    simp [key, Lit.sameKey, h, h2]

/-- the entry at a place -/
def fi (E : List En) (k : ByteArray) (v : Int) : Option En := E.find? fun e => sp e.1 (k, v, 0)
def fiV : Option En → Value
  | some e => .agg #[.int .i64 e.1.2.2, .int .i64 e.2]
  | none => .agg #[.int .i64 0, .int .i64 0]
/-- the entry of a number -/
def atN (E : List En) (m : Int) : Option En := E.find? fun e => decide ((e.2 : Int) = m)
def atV : Option En → Value
  | some e => .agg #[.string e.1.1, .int .i64 e.1.2.1]
  | none => .agg #[.string ⟨#[]⟩, .int .i64 0]

theorem look_under (E : List En) (k : ByteArray) (v : Int) : look ((under E k).map stayV) (.int .i64 v) = (fi E k v).map fun e => .agg #[.int .i64 e.1.2.2, .int .i64 e.2] := by
  rw [look_map]
  unfold under fi
  rw [List.find?_filter]
  congr 1
  congr 1
  funext e
  simp only [stayV, same_int, sp, Bool.decide_and, Bool.decide_eq_true]
theorem look_under_get (E : List En) (k : ByteArray) (v : Int) : (look ((under E k).map stayV) (.int .i64 v)).getD (.agg #[.int .i64 0, .int .i64 0]) = fiV (fi E k v) := by
  rw [look_under]
  cases fi E k v <;> rfl
theorem look_under_is (E : List En) (k : ByteArray) (v : Int) : (look ((under E k).map stayV) (.int .i64 v)).isSome = (fi E k v).isSome := by
  rw [look_under]
  cases fi E k v <;> rfl
theorem look_place_get (E : List En) (m : Int) : (look (E.map placeV) (.int .i64 m)).getD (.agg #[.string ⟨#[]⟩, .int .i64 0]) = atV (atN E m) := by
  rw [look_map]
  unfold atN
  have : (fun x : En => (placeV x).1.sameKey (.int .i64 m)) = fun e => decide ((e.2 : Int) = m) := by
    funext e
    simp only [placeV, same_int]
  rw [this]
  cases E.find? _ <;> rfl
theorem look_place_is (E : List En) (m : Int) : (look (E.map placeV) (.int .i64 m)).isSome = (atN E m).isSome := by
  rw [look_map]
  unfold atN
  have : (fun x : En => (placeV x).1.sameKey (.int .i64 m)) = fun e => decide ((e.2 : Int) = m) := by
    funext e
    simp only [placeV, same_int]
  rw [this]
  cases E.find? _ <;> rfl

/-- the row of a key, as it is looked up -/
theorem Ix.rowOf (h : Ix w b mr mp Ks E n hb) (k : ByteArray) : ∃ s o, (look (Ks.map rowV) (key k)).getD (.agg #[.string ⟨#[]⟩, .map none]) = .agg #[.string s, .map o] ∧ MpO w o 3 ((under E k).map stayV) ∧
    ((o = none ∧ (look (Ks.map rowV) (key k)).isSome = false ∧ under E k = [] ∧ ∀ p ∈ Ks, p.1 ≠ k) ∨ ∃ c, o = some c ∧ s = k ∧ (k, c) ∈ Ks ∧ (look (Ks.map rowV) (key k)).isSome = true) := by
  rw [look_map]
  have e1 : (fun x : ByteArray × Nat => (rowV x).1.sameKey (key k)) = fun p => decide (p.1 = k) := by
    funext p
    simp only [rowV, same_key]
  rw [e1]
  cases hf : Ks.find? (fun p => decide (p.1 = k)) with
  | none =>
    have hn := List.find?_eq_none.1 hf
    have hno : under E k = [] := by
      unfold under
      rw [List.filter_eq_nil_iff]
      intro e he
      obtain ⟨p, hp, e2⟩ := h.has e he
      have := hn p hp
      simpa [e2] using this
    exact ⟨_, none, rfl, by rw [hno]; exact rfl, .inl ⟨rfl, rfl, hno, fun p hp e => by have := hn p hp; simp [e] at this⟩⟩
  | some p =>
    have hm := List.mem_of_find?_eq_some hf
    have hk : p.1 = k := by simpa using List.find?_some hf
    obtain ⟨a, c⟩ := p
    simp only at hk
    subst hk
    exact ⟨a, some c, rfl, h.row _ hm, .inr ⟨c, rfl, rfl, hm, rfl⟩⟩

theorem size_bag (h : Ix w b mr mp Ks E n hb) : Calls Tryz.prog 38 #[.pointer (some ⟨b, 1, none⟩)] w fun e w' => e = .returned (.int .i64 (E.length : Int)) ∧ w' = w := by
  obtain ⟨c0, c1, c2, c3, c4, f3, f4⟩ := h.cells
  have hlen := fun ty => h.places.len Tryz.underlying59 ty
  simp only [List.length_map] at hlen
  go_enter Tryz.func38, Tryz.ntmps38
  go_wp2
  go_ret
  exact ⟨rfl, rfl⟩

set_option maxRecDepth 100000 in
theorem at_bag (h : Ix w b mr mp Ks E n hb) (m : Int) (hm : (Lit.int .i64 m).wf = true) : Calls Tryz.prog 40 #[.pointer (some ⟨b, 1, none⟩), .int .i64 m] w fun e w' => e = .returned (.tuple #[atV (atN E m), .bool (atN E m).isSome]) ∧ Below w.heap.size w w' := by
  obtain ⟨c0, c1, c2, c3, c4, f3, f4⟩ := h.cells
  have hM : MpO w (some mp) 3 (E.map placeV) := h.places
  have e1 := look_place_get E m
  have e2 := look_place_is E m
  obtain ⟨c, hc⟩ : ∃ c, (atN E m).isSome = c := ⟨_, rfl⟩
  obtain ⟨s, v, hv⟩ : ∃ s v, atV (atN E m) = .agg #[.string s, .int .i64 v] := by cases atN E m <;> exact ⟨_, _, rfl⟩
  rw [hc] at e2 ⊢
  rw [hv] at e1 ⊢
  have E1 := Lib.hid e1
  have E2 := Lib.hid e2
  have HM := Lib.hid hM
  have hlb := h.lt (.inl rfl)
  clear e1 e2 hM hc hv h
  go_enter Tryz.func40, Tryz.ntmps40
  go_wp2_with (at_lookup; go_loud (refine wpList_mp_look_ok rfl _ _ 59 rfl 80 law3 Tryz.underlying59 (zero80 _) (some mp) rfl (HM.out.alloc _) _ _ rfl (hkey3 m hm) _ _ E1.out E2.out ?_))
  refine bodyPost_ret (v := .tuple #[.agg #[.string s, .int .i64 v], .bool c]) (by simp [results, Tryz.results40, go_sem]) rfl ⟨rfl, ?_⟩
  go_grown


set_option maxRecDepth 100000 in
theorem find_bag (h : Ix w b mr mp Ks E n hb) (k : ByteArray) (v : Int) (hk : k.size ≤ maxLen) (hv : (Lit.int .i64 v).wf = true) : Calls Tryz.prog 32 #[.pointer (some ⟨b, 1, none⟩), .string k, .int .i64 v] w fun e w' => e = .returned (.tuple #[fiV (fi E k v), .bool (fi E k v).isSome]) ∧ Below w.heap.size w w' := by
  obtain ⟨c0, c1, c2, c3, c4, f3, f4⟩ := h.cells
  have hM : MpO w (some mr) 9 (Ks.map rowV) := h.rows
  obtain ⟨s, o, hs, hM2, -⟩ := h.rowOf k
  have e1 := look_under_get E k v
  have e2 := look_under_is E k v
  obtain ⟨c, hc⟩ : ∃ c, (fi E k v).isSome = c := ⟨_, rfl⟩
  obtain ⟨x, y, hxy⟩ : ∃ x y, fiV (fi E k v) = .agg #[.int .i64 x, .int .i64 y] := by cases fi E k v <;> exact ⟨_, _, rfl⟩
  rw [hc] at e2 ⊢
  rw [hxy] at e1 ⊢
  have E0 := Lib.hid hs
  have E1 := Lib.hid e1
  have E2 := Lib.hid e2
  have HM := Lib.hid hM
  have HM2 := Lib.hid hM2
  have hlb := h.lt (.inl rfl)
  clear e1 e2 hM hM2 hs hc hxy h
  have q91 := field91
  go_enter Tryz.func32, Tryz.ntmps32
  go_wp2_with (first
    | (at_lookup; refine wpList_mp_look rfl _ _ 58 rfl 91 law9 Tryz.underlying58 (zero91 _) (some mr) rfl (HM.out.alloc _) _ _ rfl (hkey9 k hk) _ E0.out ?_)
    | (at_lookup; refine wpList_mp_look_ok rfl _ _ 89 rfl 68 law3 Tryz.underlying89 (zero68 _) o rfl (HM2.out.alloc _) _ _ rfl (hkey3 v hv) _ _ E1.out E2.out ?_))
  refine bodyPost_ret (v := .tuple #[.agg #[.int .i64 x, .int .i64 y], .bool c]) (by simp [results, Tryz.results32, go_sem]) rfl ⟨rfl, ?_⟩
  go_grown

set_option maxRecDepth 100000 in
theorem values_bag (h : Ix w b mr mp Ks E n hb) (k : ByteArray) (hk : k.size ≤ maxLen) : Calls Tryz.prog 65 #[.pointer (some ⟨b, 1, none⟩), .string k] w fun e w' => ∃ o, e = .returned (.func (.func 60) #[] #[.pointer (some ⟨w.heap.size, 0, none⟩)]) ∧ w' = w.alloc (.cells #[.map o] 89) ∧ MpO w o 3 ((under E k).map stayV) := by
  obtain ⟨c0, c1, c2, c3, c4, f3, f4⟩ := h.cells
  have hM : MpO w (some mr) 9 (Ks.map rowV) := h.rows
  obtain ⟨s, o, hs, hM2, -⟩ := h.rowOf k
  have E0 := Lib.hid hs
  have HM := Lib.hid hM
  have HM2 := Lib.hid hM2
  have hlb := h.lt (.inl rfl)
  clear hM hM2 hs h
  have q91 := field91
  go_enter Tryz.func65, Tryz.ntmps65
  go_wp2_with (first
    | (at_lookup; refine wpList_mp_look rfl _ _ 58 rfl 91 law9 Tryz.underlying58 (zero91 _) (some mr) rfl HM.out _ _ rfl (hkey9 k hk) _ E0.out ?_)
    | (go_at_call 43; refine (renI_any o _).mono ?_; rintro e w' ⟨rfl, rfl⟩))
  go_ret
  exact ⟨o, rfl, rfl, HM2.out⟩
end Go.Proofs.YtfcdgfjpmcapkaaGreat
