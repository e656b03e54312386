/- Texts V, WB, HB, RC, one behind the other. -/
import Derived.Test.YtnccgaanfjaimaaDoorG6
import Derived.Test.YtnccgaanfjaimaaDoorG8
set_option linter.unusedSimpArgs false
set_option linter.unusedVariables false
namespace Go.Proofs.YtnccgaanfjaimaaDoor
open Go.ChangeShapes Go.WideShapes Go.ChangeAt Go.RowKit
set_option linter.unusedVariables false
set_option linter.unusedSimpArgs false

theorem XR.one {B g : Nat} {w : World} {k : Int} {l : ByteArray} {kv : Value} {x : X} {fr : Nat × Nat} (h : w.heap[g]? = some (.cells #[.int .i64 k, .string l, kv] 25 fr)) (hg : g < B) (hk : x.kind = k) (hl : x.lab = l) (hx : XR B w kv x.kids) (c : Nat) (hc : 1 ≤ c) : XR B w (.slice (some ⟨g, 0, none⟩) 1 c) [x] := by
  refine .mk (some ⟨g, 0, none⟩) c [x] ⟨g, 0, none⟩ (fun _ => kv) hc (fun _ => ⟨rfl, hg⟩) (fun i hi => ?_) (fun i hi => ?_) (fun i hi => ?_) (fun i hi => ?_)
  all_goals obtain rfl : i = 0 := by simpa using hi
  · simpa [Addr.add, hk] using cell_of_row _ _ 0 _ _ _ h
  · simpa [Addr.add, hl] using cell_of_row _ _ 1 _ _ _ h
  · simpa [Addr.add] using cell_of_row _ _ 2 _ _ _ h
  · exact hx
theorem XR.two {B g : Nat} {w : World} {k k' : Int} {l l' : ByteArray} {kv kv' : Value} {x x' : X} {fr : Nat × Nat} (h : w.heap[g]? = some (.cells #[.int .i64 k, .string l, kv, .int .i64 k', .string l', kv'] 25 fr)) (hg : g < B)
    (hk : x.kind = k) (hl : x.lab = l) (hx : XR B w kv x.kids) (hk' : x'.kind = k') (hl' : x'.lab = l') (hx' : XR B w kv' x'.kids) (c : Nat) (hc : 2 ≤ c) : XR B w (.slice (some ⟨g, 0, none⟩) 2 c) [x, x'] := by
  refine .mk (some ⟨g, 0, none⟩) c [x, x'] ⟨g, 0, none⟩ (fun i => if i = 0 then kv else kv') hc (fun _ => ⟨rfl, hg⟩) (fun i hi => ?_) (fun i hi => ?_) (fun i hi => ?_) (fun i hi => ?_)
  all_goals
    have h01 : i = 0 ∨ i = 1 := by simp at hi; omega
    rcases h01 with rfl | rfl
  · simpa [Addr.add, hk] using cell_of_row _ _ 0 _ _ _ h
  · simpa [Addr.add, hk'] using cell_of_row _ _ 3 _ _ _ h
  · simpa [Addr.add, hl] using cell_of_row _ _ 1 _ _ _ h
  · simpa [Addr.add, hl'] using cell_of_row _ _ 4 _ _ _ h
  · simpa [Addr.add] using cell_of_row _ _ 2 _ _ _ h
  · simpa [Addr.add] using cell_of_row _ _ 5 _ _ _ h
  · exact hx
  · exact hx'
theorem SR.lit (w : World) (l : List ByteArray) (t : TypeId) : SR (w.heap.size + 1) (w.alloc (.cells (l.map Value.string).toArray t)) (.slice (some ⟨w.heap.size, 0, none⟩) l.length l.length) l := by
  refine ⟨_, _, rfl, fun _ => ⟨_, rfl, by show w.heap.size < _; omega, fun k hk => ?_⟩⟩
  exact lit_cells w _ rfl (l.map Value.string) t k _ (by simp [hk])

def labX (s : ByteArray) : X := .mk 1 s []
def x0 : X := .mk 4 ⟨#[]⟩ [.mk 2 ⟨#[]⟩ [labX ⟨#[97]⟩, labX ⟨#[98]⟩]]
theorem x0_sz : x0.sz = 4 := by kernel_rfl
theorem x0_right : x0.right = true := by kernel_rfl
theorem x0_emp : x0.emp = true := by kernel_rfl
theorem x0_t2 : takesB x0 [⟨#[97]⟩, ⟨#[98]⟩] = true := by kernel_rfl
theorem x0_t4 : takesB x0 [⟨#[97]⟩, ⟨#[98]⟩, ⟨#[97]⟩, ⟨#[98]⟩] = true := by kernel_rfl
theorem x0_t1 : takesB x0 [⟨#[97]⟩] = false := by kernel_rfl
theorem x0_t3 : takesB x0 [⟨#[97]⟩, ⟨#[98]⟩, ⟨#[97]⟩] = false := by kernel_rfl
theorem x0_lit : x0.lit := by
  intro p hp
  have : x0.parts = [x0, .mk 2 ⟨#[]⟩ [labX ⟨#[97]⟩, labX ⟨#[98]⟩], labX ⟨#[97]⟩, labX ⟨#[98]⟩] := by kernel_rfl
  rw [this] at hp
  simp at hp
  rcases hp with rfl | rfl | rfl | rfl <;> (simp [x0, labX, X.lab, maxLen]; try decide)

def v0 (g : Nat) : Value := .agg #[.int .i64 4, .string ⟨#[]⟩, .slice (some ⟨g, 0, none⟩) 1 1]

theorem at_push (w : World) (o : Obj) : (w.alloc o).heap[w.heap.size]? = some o := by
  show (w.heap.push o)[w.heap.size]? = _
  simp
theorem lt_push (w : World) (o : Obj) : w.heap.size < (w.alloc o).heap.size := by
  show _ < (w.heap.push o).size
  simp
theorem box3 {W : World} {g : Nat} {a b c : Value} {t : TypeId} {fr : Nat × Nat} (h : W.heap[g]? = some (.cells #[a, b, c] t fr)) :
    W.cell? ⟨g, 0, none⟩ = some a ∧ W.cell? ⟨g, 1, none⟩ = some b ∧ W.cell? ⟨g, 2, none⟩ = some c :=
  ⟨cell_of_row _ _ 0 _ _ _ h, cell_of_row _ _ 1 _ _ _ h, cell_of_row _ _ 2 _ _ _ h⟩
theorem takes_lit {N : Nat} {w W : World} {v : Value} {x : X} (hx : XV N w v x) (hW : Below N w W) (hN : N ≤ W.heap.size) (hsz : x.sz ≤ 100000) (hl : x.lit) (l : List ByteArray) (hlen : l.length ≤ 100000) (t : TypeId) :
    Calls Tryd.prog 39 #[v, .slice (some ⟨W.heap.size, 0, none⟩) l.length l.length] (W.alloc (.cells (l.map Value.string).toArray t)) fun e w' => e = .returned (.bool (takesB x l)) ∧ Below W.heap.size W w' := by
  have hb : Below W.heap.size W (W.alloc (.cells (l.map Value.string).toArray t)) := (Below.refl _ W).alloc (Nat.le_refl _) _
  refine (takes20_any ((hx.bel hW).bel (hb.mono hN)) (Nat.le_trans hN hb.size) hsz hl (SR.lit W l t) (by show _ ≤ (W.heap.push _).size; rw [Array.size_push]; exact Nat.le_refl _) hlen).mono ?_
  rintro e w1 ⟨rfl, h1⟩
  exact ⟨rfl, hb.trans (h1.mono hb.size)⟩

end Go.Proofs.YtnccgaanfjaimaaDoor

namespace Go.Proofs.YtnccgaanfjaimaaDoor
open Go.ChangeShapes Go.WideShapes Go.ChangeAt Go.RowKit
set_option linter.unusedVariables false
set_option linter.unusedSimpArgs false

def ofX (k : Int) (ks : List X) : X := .mk k ⟨#[]⟩ ks
theorem ofX_sz (k : Int) (ks : List X) : (ofX k ks).sz = 1 + szL ks := X.sz_eq _
theorem parts_of (k : Int) (ks : List X) : (ofX k ks).parts = ofX k ks :: partsL ks := X.parts_eq _
theorem partsL_one (a : X) : partsL [a] = a.parts := by rw [partsL_cons, partsL_nil, List.append_nil]
theorem partsL_two (a b : X) : partsL [a, b] = a.parts ++ b.parts := by rw [partsL_cons, partsL_one]
theorem szL_one (a : X) : szL [a] = a.sz := by rw [szL_cons, szL_nil]; omega
theorem szL_two (a b : X) : szL [a, b] = a.sz + b.sz := by rw [szL_cons, szL_one]
theorem right_of2 {k : Int} (hk : k = 2 ∨ k = 3) {a b : X} (ha : a.right = true) (hb : b.right = true) (h1 : a.sz ≤ 11) (h2 : b.sz ≤ 11) : (ofX k [a, b]).right = true := by
  refine is_right (by rw [ofX_sz, szL_two]; omega) fun p hp => ?_
  rw [parts_of, partsL_two] at hp
  rcases List.mem_cons.1 hp with rfl | hp
  · rcases hk with rfl | rfl <;> rfl
  · rcases List.mem_append.1 hp with hp | hp
    · exact (right_good ha).1 p hp
    · exact (right_good hb).1 p hp
theorem right_of1 {k : Int} (hk : k = 4 ∨ k = 5 ∨ k = 6) {a : X} (ha : a.right = true) (h1 : a.sz ≤ 11) : (ofX k [a]).right = true := by
  refine is_right (by rw [ofX_sz, szL_one]; omega) fun p hp => ?_
  rw [parts_of, partsL_one] at hp
  rcases List.mem_cons.1 hp with rfl | hp
  · rcases hk with rfl | rfl | rfl <;> rfl
  · exact (right_good ha).1 p hp
theorem lit_L : ∀ {ks : List X}, (∀ y ∈ ks, y.lit) → ∀ p ∈ partsL ks, p.lab.size ≤ maxLen
  | [], h, p, hp => by rw [partsL_nil] at hp; cases hp
  | y :: ys, h, p, hp => by
    rw [partsL_cons] at hp
    rcases List.mem_append.1 hp with hp | hp
    · exact h y (by simp) p hp
    · exact lit_L (fun z hz => h z (by simp [hz])) p hp
theorem lit_of {k : Int} {ks : List X} (h : ∀ y ∈ ks, y.lit) : (ofX k ks).lit := by
  intro p hp
  rw [parts_of] at hp
  rcases List.mem_cons.1 hp with rfl | hp
  · exact Nat.zero_le _
  · exact lit_L h p hp

theorem bool_ext {a b : Bool} (h : a = true ↔ b = true) : a = b := by cases a <;> cases b <;> simp_all
/-- is one of the first? -/
def orN (f : Nat → Bool) : Nat → Bool
  | 0 => false
  | k + 1 => orN f k || f k
theorem orN_iff (f : Nat → Bool) : ∀ n, orN f n = true ↔ ∃ k, k < n ∧ f k = true
  | 0 => by
    constructor
    · intro h; cases h
    · rintro ⟨k, hk, _⟩; omega
  | n + 1 => by
    rw [orN, Bool.or_eq_true, orN_iff f n]
    constructor
    · rintro (⟨k, hk, h⟩ | h)
      · exact ⟨k, by omega, h⟩
      · exact ⟨n, by omega, h⟩
    · rintro ⟨k, hk, h⟩
      by_cases hkn : k = n
      · subst hkn; exact .inr h
      · exact .inl ⟨k, by omega, h⟩

theorem L_label (x : X) (u : Wd) (h : x.kind = 2) : x.L u ↔ LS x.kids u := by rw [X.L_eq, if_neg (by omega), if_pos h]
theorem takes_alt {a b : X} (ha : a.right = true) (hb : b.right = true) (h1 : a.sz ≤ 11) (h2 : b.sz ≤ 11) (u : Wd) : takesB (ofX 3 [a, b]) u = (takesB a u || takesB b u) := by
  refine bool_ext ?_
  rw [takesB_iff, Bool.or_eq_true, takesB_iff, takesB_iff, X.L_eq]
  simp only [ofX, X.kind, X.kids]
  rw [if_neg (by decide), if_neg (by decide), if_pos trivial, LA_cons, LA_cons, LA_nil, or_false]
  simp only [ha, hb, true_and, show (X.mk 3 ⟨#[]⟩ [a, b]).right = true from right_of2 (.inr rfl) ha hb h1 h2]
theorem takes_opt {a : X} (ha : a.right = true) (h1 : a.sz ≤ 11) (u : Wd) : takesB (ofX 6 [a]) u = (decide (u.length = 0) || takesB a u) := by
  refine bool_ext ?_
  rw [takesB_iff, Bool.or_eq_true, takesB_iff, X.L_eq, decide_eq_true_eq, List.length_eq_zero_iff]
  simp only [ofX, X.kind, X.kids]
  rw [if_neg (by decide), if_neg (by decide), if_neg (by decide), if_pos trivial, LA_cons, LA_nil, or_false]
  simp only [ha, true_and, show (X.mk 6 ⟨#[]⟩ [a]).right = true from right_of1 (.inr (.inr rfl)) ha h1]
theorem takes_seq {a b : X} (ha : a.right = true) (hb : b.right = true) (h1 : a.sz ≤ 11) (h2 : b.sz ≤ 11) (u : Wd) : takesB (ofX 2 [a, b]) u = orN (fun k => takesB a (u.take k) && takesB b (u.drop k)) (u.length + 1) := by
  refine bool_ext ?_
  rw [takesB_iff, orN_iff, X.L_eq]
  simp only [ofX, X.kind, X.kids, Bool.and_eq_true, takesB_iff, ha, hb, true_and]
  rw [if_neg (by decide), if_pos trivial, LS_cons]
  simp only [show (X.mk 2 ⟨#[]⟩ [a, b]).right = true from right_of2 (.inl rfl) ha hb h1 h2, true_and, LS_cons, LS_nil]
  constructor
  · rintro ⟨p, q, rfl, hp, q1, q2, rfl, hq, rfl⟩
    exact ⟨p.length, by simp; omega, by simpa using hp, by simpa using hq⟩
  · rintro ⟨k, hk, hp, hq⟩
    exact ⟨_, _, (List.take_append_drop k u).symm, hp, _, [], (List.append_nil _).symm, hq, rfl⟩
theorem LA_one (a : X) : LA [a] = a.L := by
  funext u
  exact propext (by rw [LA_cons, LA_nil, or_false])
theorem star_iff {a : X} (ha : a.right = true) (h1 : a.sz ≤ 11) (u : Wd) : takesB (ofX 4 [a]) u = true ↔ u = [] ∨ Pl a.L u := by
  rw [takesB_iff, X.L_eq]
  simp only [ofX, X.kind, X.kids]
  rw [if_neg (by decide), if_neg (by decide), if_neg (by decide), if_neg (by decide), if_pos trivial, LA_one]
  simp only [show (X.mk 4 ⟨#[]⟩ [a]).right = true from right_of1 (.inl rfl) ha h1, true_and]
theorem L5 (a : X) (u : Wd) : (ofX 5 [a]).L u ↔ Pl a.L u := by
  have h : (ofX 5 [a]).L u ↔ Pl (LA [a]) u := by
    unfold ofX
    rw [X.L]
    rfl
  rw [h, LA_one]
theorem plus_iff {a : X} (ha : a.right = true) (h1 : a.sz ≤ 11) (u : Wd) : takesB (ofX 5 [a]) u = true ↔ Pl a.L u := by
  rw [takesB_iff, L5]
  simp only [show (ofX 5 [a]).right = true from right_of1 (.inr (.inl rfl)) ha h1, true_and]
theorem takes_star {a : X} (ha : a.right = true) (h1 : a.sz ≤ 11) (u : Wd) : takesB (ofX 4 [a]) u = (decide (u.length = 0) || orN (fun k => decide (0 < k) && takesB a (u.take k) && takesB (ofX 4 [a]) (u.drop k)) (u.length + 1)) := by
  refine bool_ext ?_
  rw [star_iff ha h1, Bool.or_eq_true, orN_iff, decide_eq_true_eq, List.length_eq_zero_iff]
  simp only [Bool.and_eq_true, decide_eq_true_eq, takesB_iff a, star_iff ha h1, ha, true_and]
  constructor
  · rintro (h | h)
    · exact .inl h
    · by_cases hu : u = []
      · exact .inl hu
      · obtain ⟨p, q, rfl, hp0, hp, hq⟩ := h.split1 hu
        refine .inr ⟨p.length, by simp; omega, ⟨List.length_pos_iff.2 hp0, by simpa using hp⟩, ?_⟩
        rw [List.drop_left]
        exact hq
  · rintro (h | ⟨k, hk, ⟨h0, hp⟩, hq⟩)
    · exact .inl h
    · refine .inr ?_
      rw [← List.take_append_drop k u]
      rcases hq with hq | hq
      · rw [hq, List.append_nil]
        exact .one _ hp
      · exact Pl.cons hp hq
theorem takes_plus {a : X} (ha : a.right = true) (h1 : a.sz ≤ 11) (u : Wd) : takesB (ofX 5 [a]) u = orN (fun k => takesB a (u.take k) && takesB (ofX 4 [a]) (u.drop k)) (u.length + 1) := by
  refine bool_ext ?_
  rw [plus_iff ha h1, orN_iff]
  simp only [Bool.and_eq_true, takesB_iff a, star_iff ha h1, ha, true_and]
  constructor
  · intro h
    obtain ⟨p, q, rfl, hp, hq⟩ := h.split
    exact ⟨p.length, by simp; omega, by simpa using hp, by simpa using hq⟩
  · rintro ⟨k, hk, hp, hq⟩
    rw [← List.take_append_drop k u]
    rcases hq with hq | hq
    · rw [hq, List.append_nil]
      exact .one _ hp
    · exact Pl.cons hp hq
end Go.Proofs.YtnccgaanfjaimaaDoor

namespace Go.Proofs.YtnccgaanfjaimaaDoor
open Go.ChangeShapes Go.WideShapes Go.ChangeAt Go.RowKit
set_option linter.unusedVariables false
set_option linter.unusedSimpArgs false

attribute [local go_sem] Oper.semAt_some

theorem SR.take {B : Nat} {w : World} {A : Option Addr} {n c : Nat} {l : Wd} (h : SR B w (.slice A n c) l) {k : Nat} (hk : k ≤ l.length) : SR B w (.slice A k c) (l.take k) := by
  obtain ⟨A', c', e, h⟩ := h
  injection e with e1 e2 e3
  subst e1 e3
  refine ⟨A, c, by rw [List.length_take, Nat.min_eq_left hk], fun h0 => ?_⟩
  rw [List.length_take] at h0
  obtain ⟨ad, rfl, hb, hc⟩ := h (by omega)
  exact ⟨ad, rfl, hb, fun i hi => by rw [List.length_take] at hi; rw [hc i (by omega), List.getElem_take]⟩
def dropA (A : Option Addr) (c k : Nat) : Option Addr := if c = k then A else A.map fun ad => ad.add k
theorem SR.drop {B : Nat} {w : World} {A : Option Addr} {n c : Nat} {l : Wd} (h : SR B w (.slice A n c) l) (hnc : n ≤ c) {k : Nat} (hk : k ≤ l.length) : SR B w (.slice (dropA A c k) (n - k : Nat) (c - k : Nat)) (l.drop k) := by
  obtain ⟨A', c', e, h⟩ := h
  injection e with e1 e2 e3
  subst e1 e3
  refine ⟨_, c - k, by rw [List.length_drop, e2], fun h0 => ?_⟩
  rw [List.length_drop] at h0
  obtain ⟨ad, rfl, hb, hc⟩ := h (by omega)
  unfold dropA
  rw [if_neg (by omega)]
  exact ⟨ad.add k, rfl, by rw [block_add]; exact hb, fun i hi => by rw [List.length_drop] at hi; rw [add_of_add, hc (k + i) (by omega), List.getElem_drop]⟩
theorem lit_below {W W' : World} {o : Obj} (h : Gr (W.alloc o) W') : Below (W.heap.size + 1) (W.alloc o) W' := by
  have := h.below
  rwa [World.size_alloc] at this
theorem lit_step {W1 W W' : World} {o : Obj} (hb : Below W1.heap.size W1 W) (h : Gr (W.alloc o) W') : Below W1.heap.size W1 W' :=
  (hb.alloc hb.size o).trans (h.below.mono (by have := hb.size; rw [World.size_alloc]; omega))
theorem calls_base {f : FuncId} {args : Array Value} {W0 W : World} {r : Ending} (h : Calls Tryd.prog f args W fun e w' => e = r ∧ Below W.heap.size W w') (hb : Below W0.heap.size W0 W) :
    Calls Tryd.prog f args W fun e w' => e = r ∧ Below W0.heap.size W0 w' :=
  h.mono (by rintro e w1 ⟨rfl, h1⟩; exact ⟨rfl, hb.trans (h1.mono hb.size)⟩)
theorem XV.of1 {s0 : Nat} {W0 W W' : World} {k ka : Int} {la : ByteArray} {kva : Value} {a : X} (h : XV s0 W0 (.agg #[.int .i64 ka, .string la, kva]) a) (hb : Below s0 W0 W) (hs : s0 ≤ W.heap.size)
    (h2 : Below (W.heap.size + 1) (W.alloc (.cells #[.int .i64 ka, .string la, kva] 25)) W') : XV W'.heap.size W' (.agg #[.int .i64 k, .string ⟨#[]⟩, .slice (some ⟨W.heap.size, 0, none⟩) 1 1]) (ofX k [a]) := by
  obtain ⟨kv, e, hr⟩ := h
  injection e with e
  injection e with e
  injection e with e1 e
  injection e with e2 e
  injection e with e3 e
  injection e1 with _ e1
  injection e2 with e2
  subst e1 e2 e3
  have hz : W.heap.size + 1 ≤ W'.heap.size := by have := h2.size; simpa using this
  refine ⟨_, rfl, XR.one (g := W.heap.size) ((h2.block _ (by omega)).trans (at_push _ _)) (by omega) rfl rfl ?_ 1 (Nat.le_refl _)⟩
  refine (((hr.bel hb).bel ((Below.refl _ W).alloc hs _)).bel (h2.mono (by omega))).mono (by omega)
theorem XV.of2 {s0 : Nat} {W0 W W' : World} {k ka kb : Int} {la lb : ByteArray} {kva kvb : Value} {a b : X} (h : XV s0 W0 (.agg #[.int .i64 ka, .string la, kva]) a) (h' : XV s0 W0 (.agg #[.int .i64 kb, .string lb, kvb]) b) (hb : Below s0 W0 W) (hs : s0 ≤ W.heap.size)
    (h2 : Below (W.heap.size + 1) (W.alloc (.cells #[.int .i64 ka, .string la, kva, .int .i64 kb, .string lb, kvb] 25)) W') : XV W'.heap.size W' (.agg #[.int .i64 k, .string ⟨#[]⟩, .slice (some ⟨W.heap.size, 0, none⟩) 2 2]) (ofX k [a, b]) := by
  obtain ⟨kv, e, hr⟩ := h
  injection e with e
  injection e with e
  injection e with e1 e
  injection e with e2 e
  injection e with e3 e
  injection e1 with _ e1
  injection e2 with e2
  subst e1 e2 e3
  obtain ⟨kv', e, hr'⟩ := h'
  injection e with e
  injection e with e
  injection e with e1 e
  injection e with e2 e
  injection e with e3 e
  injection e1 with _ e1
  injection e2 with e2
  subst e1 e2 e3
  have hz : W.heap.size + 1 ≤ W'.heap.size := by have := h2.size; simpa using this
  refine ⟨_, rfl, XR.two (g := W.heap.size) ((h2.block _ (by omega)).trans (at_push _ _)) (by omega) rfl rfl ?_ rfl rfl ?_ 2 (Nat.le_refl _)⟩
  · exact (((hr.bel hb).bel ((Below.refl _ W).alloc hs _)).bel (h2.mono (by omega))).mono (by omega)
  · exact (((hr'.bel hb).bel ((Below.refl _ W).alloc hs _)).bel (h2.mono (by omega))).mono (by omega)

end Go.Proofs.YtnccgaanfjaimaaDoor

namespace Go.Proofs.YtnccgaanfjaimaaDoor
open Go.ChangeShapes Go.WideShapes Go.ChangeAt Go.RowKit
set_option linter.unusedVariables false
set_option linter.unusedSimpArgs false

theorem seg_nil_iff (w : Nat → ByteArray) {i j : Nat} (h : i ≤ j) : seg w i j = [] ↔ i = j := by
  constructor
  · intro e
    have h1 := seg_len w i j
    rw [e] at h1
    simp at h1
    omega
  · rintro rfl; exact seg_self w i
/-- what lies between two places is of the kind P -/
def Bt (w : Nat → ByteArray) (P : Wd → Prop) (i j : Nat) : Prop := i ≤ j ∧ P (seg w i j)
theorem Bt.le {w : Nat → ByteArray} {P : Wd → Prop} {i j : Nat} (h : Bt w P i j) : i ≤ j := h.1

/-- at most m steps -/
def St (R : Nat → Nat → Prop) : Nat → Nat → Nat → Prop
  | 0, i, j => i = j
  | m + 1, i, j => i = j ∨ ∃ k, R i k ∧ St R m k j
theorem St.refl (R : Nat → Nat → Prop) : ∀ m i, St R m i i
  | 0, i => rfl
  | m + 1, i => .inl rfl
theorem St.le {R : Nat → Nat → Prop} (hR : ∀ i k, R i k → i ≤ k) : ∀ {m i j}, St R m i j → i ≤ j
  | 0, i, j, h => Nat.le_of_eq h
  | m + 1, i, j, h => by
    rcases h with rfl | ⟨k, h1, h2⟩
    · exact Nat.le_refl _
    · exact Nat.le_trans (hR _ _ h1) (St.le hR h2)
theorem St_one (R : Nat → Nat → Prop) (i j : Nat) : St R 1 i j ↔ i = j ∨ R i j := by
  constructor
  · rintro (h | ⟨k, h1, h2⟩)
    · exact .inl h
    · obtain rfl : k = j := h2
      exact .inr h1
  · rintro (h | h)
    · exact .inl h
    · exact .inr ⟨j, h, rfl⟩
theorem St_up {R : Nat → Nat → Prop} : ∀ {m i j}, St R m i j → St R (m + 1) i j
  | 0, i, j, h => .inl h
  | m + 1, i, j, h => by
    rcases h with rfl | ⟨k, h1, h2⟩
    · exact .inl rfl
    · exact .inr ⟨k, h1, St_up h2⟩
theorem St_more {R : Nat → Nat → Prop} {m i j : Nat} (h : St R m i j) : ∀ d, St R (m + d) i j
  | 0 => h
  | d + 1 => St_up (St_more h d)
theorem St_add (R : Nat → Nat → Prop) : ∀ (a b i j : Nat), St R (a + b) i j ↔ ∃ k, St R a i k ∧ St R b k j
  | 0, b, i, j => by
    rw [Nat.zero_add]
    exact ⟨fun h => ⟨i, rfl, h⟩, fun ⟨k, h1, h2⟩ => by obtain rfl : i = k := h1; exact h2⟩
  | a + 1, b, i, j => by
    rw [show a + 1 + b = (a + b) + 1 by omega]
    constructor
    · rintro (rfl | ⟨k, h1, h2⟩)
      · exact ⟨i, St.refl _ _ _, St.refl _ _ _⟩
      · obtain ⟨m, h3, h4⟩ := (St_add R a b k j).1 h2
        exact ⟨m, .inr ⟨k, h1, h3⟩, h4⟩
    · rintro ⟨m, (rfl | ⟨k, h1, h2⟩), h3⟩
      · rw [show (a + b) + 1 = b + (a + 1) by omega]
        exact St_more h3 _
      · exact .inr ⟨k, h1, (St_add R a b k j).2 ⟨m, h2, h3⟩⟩
theorem St_star (w : Nat → ByteArray) (P : Wd → Prop) : ∀ (m i j : Nat), i ≤ j → j - i ≤ m → (St (Bt w P) m i j ↔ i = j ∨ Pl P (seg w i j))
  | 0, i, j, h, hm => by
    obtain rfl : i = j := by omega
    exact ⟨fun _ => .inl rfl, fun _ => rfl⟩
  | m + 1, i, j, h, hm => by
    constructor
    · rintro (rfl | ⟨k, h1, h2⟩)
      · exact .inl rfl
      · have hkj := St.le (fun _ _ h => Bt.le h) h2
        by_cases hik : i < k
        · rcases (St_star w P m k j hkj (by omega)).1 h2 with rfl | h3
          · exact .inr (.one _ h1.2)
          · right
            rw [← seg_app w h1.1 hkj]
            exact Pl.cons h1.2 h3
        · obtain rfl : i = k := by have := h1.1; omega
          have hpn : Pl P (seg w i i) := .one _ h1.2
          by_cases hij : i = j
          · exact .inl hij
          · right
            -- an empty piece in front
            have : ∀ m j, St (Bt w P) m i j → i = j ∨ Pl P (seg w i j) := by
              intro m
              induction m with
              | zero => intro j h; exact .inl h
              | succ m ih =>
                intro j h
                rcases h with rfl | ⟨k, h3, h4⟩
                · exact .inl rfl
                · -- by the number of steps
                  have gen : ∀ m k j, i ≤ k → Bt w P i k → St (Bt w P) m k j → Pl P (seg w i j) := by
                    intro m
                    induction m with
                    | zero => intro k j hk hb h; obtain rfl : k = j := h; exact .one _ hb.2
                    | succ m ih2 =>
                      intro k j hk hb h
                      have gen2 : ∀ m k j, i ≤ k → Pl P (seg w i k) → St (Bt w P) m k j → Pl P (seg w i j) := by
                        intro m
                        induction m with
                        | zero => intro k j hk hb h; obtain rfl : k = j := h; exact hb
                        | succ m ih3 =>
                          intro k j hk hb h
                          rcases h with rfl | ⟨l, h5, h6⟩
                          · exact hb
                          · refine ih3 l j (Nat.le_trans hk h5.1) ?_ h6
                            rw [← seg_app w hk h5.1]
                            exact .snoc _ _ hb h5.2
                      exact gen2 (m + 1) k j hk (.one _ hb.2) h
                  exact .inr (gen m k j h3.1 h3 h4)
            rcases this m j h2 with h3 | h3
            · exact absurd h3 hij
            · exact h3
    · rintro (rfl | h1)
      · exact .inl rfl
      · by_cases hij : i = j
        · exact .inl hij
        · obtain ⟨p, q, e, hp0, hp, hq⟩ := Pl.split1 h1 (seg_ne w (by omega))
          obtain ⟨k, hik, hkj, rfl, rfl⟩ := seg_split h e
          have hik2 : i ≠ k := fun e => hp0 (by rw [e]; exact seg_self w k)
          refine .inr ⟨k, ⟨hik, hp⟩, (St_star w P m k j hkj (by omega)).2 ?_⟩
          rcases hq with hq | hq
          · exact .inl ((seg_nil_iff w hkj).1 hq)
          · exact .inr hq
/-- one and any more -/
theorem St_plus (w : Nat → ByteArray) (P : Wd → Prop) {m i j : Nat} (h : i ≤ j) (hm : j - i ≤ m) : (∃ k, Bt w P i k ∧ St (Bt w P) m k j) ↔ Pl P (seg w i j) := by
  constructor
  · rintro ⟨k, h1, h2⟩
    have hkj := St.le (fun _ _ h => Bt.le h) h2
    rcases (St_star w P m k j hkj (by have := h1.1; omega)).1 h2 with rfl | h3
    · exact .one _ h1.2
    · rw [← seg_app w h1.1 hkj]
      exact Pl.cons h1.2 h3
  · intro h1
    obtain ⟨p, q, e, hp, hq⟩ := Pl.split h1
    obtain ⟨k, hik, hkj, rfl, rfl⟩ := seg_split h e
    refine ⟨k, ⟨hik, hp⟩, (St_star w P m k j hkj (by omega)).2 ?_⟩
    rcases hq with hq | hq
    · exact .inl ((seg_nil_iff w hkj).1 hq)
    · exact .inr hq

theorem LS_snoc (x : X) : ∀ (ks : List X) (u : Wd), LS (ks ++ [x]) u ↔ ∃ p q, u = p ++ q ∧ LS ks p ∧ x.L q
  | [], u => by
    rw [List.nil_append, LS_cons]
    constructor
    · rintro ⟨p, q, rfl, h1, h2⟩
      rw [LS_nil] at h2
      subst h2
      exact ⟨[], p, by simp, by rw [LS_nil], h1⟩
    · rintro ⟨p, q, rfl, h1, h2⟩
      rw [LS_nil] at h1
      subst h1
      exact ⟨q, [], by simp, h2, by rw [LS_nil]⟩
  | y :: ys, u => by
    rw [List.cons_append, LS_cons]
    constructor
    · rintro ⟨p, q, rfl, h1, h2⟩
      obtain ⟨a, b, rfl, h3, h4⟩ := (LS_snoc x ys q).1 h2
      exact ⟨p ++ a, b, by simp, (LS_cons _ _ _).2 ⟨p, a, rfl, h1, h3⟩, h4⟩
    · rintro ⟨p, q, rfl, h1, h2⟩
      obtain ⟨a, b, rfl, h3, h4⟩ := (LS_cons _ _ _).1 h1
      exact ⟨a, b ++ q, by simp, h3, (LS_snoc x ys _).2 ⟨b, q, rfl, h4, h2⟩⟩
theorem LA_snoc (x : X) : ∀ (ks : List X) (u : Wd), LA (ks ++ [x]) u ↔ LA ks u ∨ x.L u
  | [], u => by rw [List.nil_append, LA_cons, LA_nil]; simp
  | y :: ys, u => by rw [List.cons_append, LA_cons, LA_cons, LA_snoc x ys u, or_assoc]
theorem Bt_LS_nil (w : Nat → ByteArray) (i j : Nat) : Bt w (LS []) i j ↔ i = j := by
  constructor
  · rintro ⟨h, h1⟩
    rw [LS_nil] at h1
    exact (seg_nil_iff w h).1 h1
  · rintro rfl
    exact ⟨Nat.le_refl _, by rw [LS_nil]; exact seg_self w i⟩
theorem Bt_LS_snoc (w : Nat → ByteArray) (ks : List X) (x : X) (i j : Nat) : Bt w (LS (ks ++ [x])) i j ↔ ∃ k, Bt w (LS ks) i k ∧ Bt w x.L k j := by
  constructor
  · rintro ⟨h, h1⟩
    obtain ⟨p, q, e, h2, h3⟩ := (LS_snoc x ks _).1 h1
    obtain ⟨k, hik, hkj, rfl, rfl⟩ := seg_split h e
    exact ⟨k, ⟨hik, h2⟩, hkj, h3⟩
  · rintro ⟨k, ⟨h1, h2⟩, h3, h4⟩
    exact ⟨Nat.le_trans h1 h3, (LS_snoc x ks _).2 ⟨_, _, (seg_app w h1 h3).symm, h2, h4⟩⟩
theorem Bt_LA_nil (w : Nat → ByteArray) (i j : Nat) : Bt w (LA []) i j ↔ False := by
  constructor
  · rintro ⟨_, h⟩; rw [LA_nil] at h; exact h
  · exact False.elim
theorem Bt_LA_snoc (w : Nat → ByteArray) (ks : List X) (x : X) (i j : Nat) : Bt w (LA (ks ++ [x])) i j ↔ Bt w (LA ks) i j ∨ Bt w x.L i j := by
  constructor
  · rintro ⟨h, h1⟩
    rcases (LA_snoc x ks _).1 h1 with h2 | h2
    · exact .inl ⟨h, h2⟩
    · exact .inr ⟨h, h2⟩
  · rintro (⟨h, h1⟩ | ⟨h, h1⟩)
    · exact ⟨h, (LA_snoc x ks _).2 (.inl h1)⟩
    · exact ⟨h, (LA_snoc x ks _).2 (.inr h1)⟩
theorem Bt_label (w : Nat → ByteArray) {x : X} (hk : x.kind = 1) (i j : Nat) : Bt w x.L i j ↔ j = i + 1 ∧ w i = x.lab := by
  constructor
  · rintro ⟨h, h1⟩
    rw [X.L_eq, if_pos hk] at h1
    have h2 := seg_len w i j
    rw [h1] at h2
    simp at h2
    obtain rfl : j = i + 1 := by omega
    rw [seg_one] at h1
    exact ⟨rfl, by injection h1⟩
  · rintro ⟨rfl, h⟩
    exact ⟨Nat.le_succ _, by rw [X.L_eq, if_pos hk, seg_one, h]⟩
theorem Bt_seq (w : Nat → ByteArray) {x : X} (hk : x.kind = 2) (i j : Nat) : Bt w x.L i j ↔ Bt w (LS x.kids) i j := by
  unfold Bt; rw [X.L_eq, if_neg (by omega), if_pos hk]
theorem Bt_alt (w : Nat → ByteArray) {x : X} (hk : x.kind = 3) (i j : Nat) : Bt w x.L i j ↔ Bt w (LA x.kids) i j := by
  unfold Bt; rw [X.L_eq, if_neg (by omega), if_neg (by omega), if_pos hk]
theorem LA_one' (a : X) (u : Wd) : LA [a] u ↔ a.L u := by rw [LA_cons, LA_nil]; simp
theorem LA_one_fun (a : X) : LA [a] = a.L := funext fun u => propext (LA_one' a u)
theorem Bt_opt (w : Nat → ByteArray) {x a : X} (hk : x.kind = 6) (hx : x.kids = [a]) (i j : Nat) : Bt w x.L i j ↔ i = j ∨ Bt w a.L i j := by
  unfold Bt
  rw [X.L_eq, if_neg (by omega), if_neg (by omega), if_neg (by omega), if_pos hk, hx, LA_one_fun]
  constructor
  · rintro ⟨h, h1 | h1⟩
    · exact .inl ((seg_nil_iff w h).1 h1)
    · exact .inr ⟨h, h1⟩
  · rintro (rfl | ⟨h, h1⟩)
    · exact ⟨Nat.le_refl _, .inl (seg_self w i)⟩
    · exact ⟨h, .inr h1⟩
theorem Bt_star (w : Nat → ByteArray) {x a : X} (hk : x.kind = 4) (hx : x.kids = [a]) {i j m : Nat} (hm : j - i ≤ m) : Bt w x.L i j ↔ St (Bt w a.L) m i j := by
  unfold Bt
  rw [X.L_eq, if_neg (by omega), if_neg (by omega), if_neg (by omega), if_neg (by omega), if_pos hk, hx, LA_one_fun]
  constructor
  · rintro ⟨h, h1⟩
    refine (St_star w a.L m i j h hm).2 ?_
    rcases h1 with h1 | h1
    · exact .inl ((seg_nil_iff w h).1 h1)
    · exact .inr h1
  · intro h1
    have h := St.le (fun _ _ h => Bt.le h) h1
    refine ⟨h, ?_⟩
    rcases (St_star w a.L m i j h hm).1 h1 with h2 | h2
    · exact .inl ((seg_nil_iff w h).2 h2)
    · exact .inr h2
theorem Bt_plus (w : Nat → ByteArray) {x a : X} (hk : x.kind = 5) (hx : x.kids = [a]) {i j m : Nat} (hm : j - i ≤ m) : Bt w x.L i j ↔ ∃ k, Bt w a.L i k ∧ St (Bt w a.L) m k j := by
  have e : Bt w x.L i j ↔ i ≤ j ∧ Pl a.L (seg w i j) := by
    unfold Bt
    rw [X.L_eq, if_neg (by omega), if_neg (by omega), if_neg (by omega), if_neg (by omega), if_neg (by omega), hx, LA_one_fun]
  rw [e]
  constructor
  · rintro ⟨h, h1⟩
    exact (St_plus w a.L h hm).2 h1
  · rintro ⟨k, h1, h2⟩
    have h := Nat.le_trans h1.1 (St.le (fun _ _ h => Bt.le h) h2)
    exact ⟨h, (St_plus w a.L h hm).1 ⟨k, h1, h2⟩⟩
end Go.Proofs.YtnccgaanfjaimaaDoor
